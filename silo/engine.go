package silo

import (
	"silo/api"
	"silo/blocks"
	"silo/disk"
	"silo/sets"
)

// Engine is an engine with its machines.
type Engine struct {
	// What every call but Files answers from now on, unless it is OK.
	fault api.Errno

	disk *disk.Disk
	next int // the next number
	// By rising lo.
	blocks []blocks.Range
	// The live logs, by rising numbers: the last one is written to.
	live   []int
	frozen sets.Set
	head   sets.Set
	// What the snapshot at work pins, by rising lo.
	pins []pin

	machines map[int]*machine // those at work
	begun    int
	working  [kinds]int
}

// takeNumber uses the next number up.
func (e *Engine) takeNumber() int {
	e.next++
	return e.next - 1
}

// writeFile makes a new file with these bytes, which are safe.
func (e *Engine) writeFile(name string, data string) {
	e.disk.Create(name)
	e.disk.Append(name, data)
	e.disk.Sync(name)
}

// showFile gives a file its name in the place of the one under which it was
// written, and makes this safe.
func (e *Engine) showFile(written string, name string) {
	e.disk.Rename(written, name)
	e.disk.SyncDir()
}

// removeFiles takes names away, in their order, and makes this safe.
func (e *Engine) removeFiles(names []string) {
	if len(names) == 0 {
		return
	}
	for _, name := range names {
		e.disk.Remove(name)
	}
	e.disk.SyncDir()
}

// checkPower stands behind what has operations. Steps go on to their end when
// power is lost amid them, as the disk does nothing then. Nobody but Files sees
// the engine any more, so nothing else is kept.
func (e *Engine) checkPower() api.Errno {
	if e.disk.Lost() {
		*e = Engine{fault: api.ErrLost, disk: e.disk}
	}
	return e.fault
}

// Files tells what is on the disk (P14).
func (e *Engine) Files() []api.File { return e.disk.Files() }
