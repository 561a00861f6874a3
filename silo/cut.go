package silo

import (
	"silo/api"
	"silo/blocks"
	"silo/logs"
	"silo/sets"
)

// cutFile is where a block lies until it is whole and safe.
const cutFile = "t.b"

// cutting is a cut at work.
type cutting struct {
	engine *Engine
	logs   []int // those that were frozen, by rising numbers
	block  blocks.Range
}

// Cut begins a machine that cuts (P6).
func (e *Engine) Cut() (int, api.Errno) {
	if refusal := e.refusal(cuts); refusal != api.OK {
		return 0, refusal
	}
	c := &cutting{engine: e}
	return e.begin(cuts, c.freeze, c.write, c.show, c.removeLogs).number, api.OK
}

func (c *cutting) freeze() bool {
	e := c.engine
	if e.head.Empty() {
		return true
	}
	e.disk.Sync(e.written())
	log := e.createLog()
	c.logs, e.live = e.live, []int{log}
	c.block = blocks.Range{Lo: c.logs[0], Hi: c.logs[len(c.logs)-1]}
	e.frozen, e.head = e.head, sets.Set{}
	return false
}

func (c *cutting) write() bool {
	c.engine.writeFile(cutFile, blocks.Encode(c.block, &c.engine.frozen))
	return false
}

func (c *cutting) show() bool {
	e := c.engine
	e.showFile(cutFile, c.block.Name())
	// Logs are numbered upward, and those that an engine was opened with are
	// above its blocks: so this one is above all others.
	e.blocks = append(e.blocks, c.block)
	e.frozen = sets.Set{}
	return false
}

func (c *cutting) removeLogs() bool {
	var names []string
	for _, number := range c.logs {
		names = append(names, logs.Name(number))
	}
	c.engine.removeFiles(names)
	return true
}
