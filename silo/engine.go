package silo

import (
	"silo/api"
	"silo/blocks"
	"silo/disk"
	"silo/logs"
	"silo/sets"
)

// Engine is an engine with its machines.
type Engine struct {
	// What every call but Files answers from now on, unless it is OK.
	fault api.Errno

	disk *disk.Disk
	next int // the next number
	// By rising lo.
	blocks []block
	// The live logs, by rising numbers: the last one is written to.
	live   []int
	frozen sets.Set
	head   sets.Set

	machines map[int]*machine // those at work
	begun    int
	working  [kinds]int
}

// block is one of the engine's blocks: its file lies on the disk.
type block struct{ lo, hi int }

func (b block) name() string { return blocks.Name(b.lo, b.hi) }

// Open opens an engine (P4).
func Open(files []api.File, o api.Options) (*Engine, api.Errno) {
	if !disk.Fit(files) {
		return nil, api.ErrDisk
	}
	if !optionsFit(o) {
		return nil, api.ErrOption
	}
	e := &Engine{disk: disk.New(files, o), machines: make(map[int]*machine)}
	if len(files) > 0 {
		// What files say is not read as yet. To go on without would lose it.
		e.fault = api.ErrCorrupt
		return e, e.fault
	}
	e.live = []int{e.createLog()}
	return e, e.checkPower()
}

func optionsFit(o api.Options) bool {
	if o.Crash < api.Never || o.Dirs < 0 {
		return false
	}
	for _, keep := range o.Keeps {
		if keep < 0 {
			return false
		}
	}
	return true
}

// createLog makes a log of the next number safe in the directory.
func (e *Engine) createLog() int {
	number := e.next
	e.next++
	e.disk.Create(logs.Name(number))
	e.disk.SyncDir()
	return number
}

// checkPower stands behind what has operations. Steps go on to their end when
// power is lost amid them: the disk does nothing then, and nobody but Files
// sees the engine any more.
func (e *Engine) checkPower() api.Errno {
	if e.disk.Lost() {
		e.fault = api.ErrLost
	}
	return e.fault
}

// Files tells what is on the disk (P14).
func (e *Engine) Files() []api.File { return e.disk.Files() }
