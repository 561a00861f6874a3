package silo

import (
	"silo/api"
	"silo/blocks"
	"silo/logs"
	"silo/sets"
)

// lastNumber is the greatest next number at which a machine that uses numbers
// up may begin: those at work find theirs above it.
const lastNumber = 999990

// cutFile is where a block lies until it is whole and safe.
const cutFile = "t.b"

// cutting is a cut at work.
type cutting struct {
	engine *Engine
	logs   []int // those that were frozen, by rising numbers
	block  block
}

// Cut begins a machine that cuts (P6).
func (e *Engine) Cut() (int, api.Errno) {
	if e.fault != api.OK {
		return 0, e.fault
	}
	if e.working[cuts] > 0 {
		return 0, api.ErrBusy
	}
	if e.next > lastNumber {
		return 0, api.ErrFull
	}
	c := &cutting{engine: e}
	return e.begin(cuts, c.freeze, c.write, c.show, c.removeLogs), api.OK
}

func (c *cutting) freeze() bool {
	e := c.engine
	if e.head.Empty() {
		return true
	}
	e.disk.Sync(e.written())
	log := e.createLog()
	c.logs, e.live = e.live, []int{log}
	c.block = block{lo: c.logs[0], hi: c.logs[len(c.logs)-1]}
	e.frozen, e.head = e.head, sets.Set{}
	return false
}

func (c *cutting) write() bool {
	e := c.engine
	e.disk.Create(cutFile)
	e.disk.Append(cutFile, blocks.Encode(c.block.lo, c.block.hi, &e.frozen))
	e.disk.Sync(cutFile)
	return false
}

func (c *cutting) show() bool {
	e := c.engine
	e.disk.Rename(cutFile, c.block.name())
	e.disk.SyncDir()
	// Logs are numbered upward, so this one is above all other blocks.
	e.blocks = append(e.blocks, c.block)
	e.frozen = sets.Set{}
	return false
}

func (c *cutting) removeLogs() bool {
	for _, number := range c.logs {
		c.engine.disk.Remove(logs.Name(number))
	}
	c.engine.disk.SyncDir()
	return true
}
