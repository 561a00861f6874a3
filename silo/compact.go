package silo

import (
	"slices"

	"silo/api"
	"silo/blocks"
	"silo/sets"
)

// compactFile is where a block lies until it is whole and safe.
const compactFile = "t.c"

// compacting is a compaction at work.
type compacting struct {
	engine *Engine
	old    []blocks.Range // the two, by rising lo
	block  blocks.Range   // what takes their place
}

// Compact begins a machine that compacts (P7).
func (e *Engine) Compact() (int, api.Errno) {
	if refusal := e.refusal(compacts); refusal != api.OK {
		return 0, refusal
	}
	c := &compacting{engine: e}
	return e.begin(compacts, c.write, c.show, c.removeOld).number, api.OK
}

func (c *compacting) write() bool {
	e := c.engine
	if len(e.blocks) < 2 {
		return true
	}
	c.old = slices.Clone(e.blocks[:2])
	c.block = blocks.Range{Lo: c.old[0].Lo, Hi: c.old[1].Hi}
	var set sets.Set
	for _, old := range c.old {
		set.Lay(blocks.Samples(e.disk.Read(old.Name())))
	}
	e.writeFile(compactFile, blocks.Encode(c.block, &set))
	return false
}

func (c *compacting) show() bool {
	e := c.engine
	e.showFile(compactFile, c.block.Name())
	// The two are the lowest still, as cuts put blocks above all others.
	e.blocks = slices.Replace(e.blocks, 0, len(c.old), c.block)
	return false
}

func (c *compacting) removeOld() bool {
	var names []string
	for _, old := range c.old {
		if !c.engine.doom(old) {
			names = append(names, old.Name())
		}
	}
	c.engine.removeFiles(names)
	return true
}
