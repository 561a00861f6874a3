package silo

import (
	"slices"

	"silo/api"
	"silo/blocks"
	"silo/sets"
	"silo/snapshots"
)

// manifestFile is where a manifest lies until it is whole and safe.
const manifestFile = "t.s"

// snapping is a snapshot at work.
type snapping struct {
	engine  *Engine
	machine *machine
	number  int
	own     blocks.Range
	ownFile string // empty, if there is no block of its own
}

// Snapshot begins a machine that takes a snapshot (P8).
func (e *Engine) Snapshot() (int, api.Errno) {
	if refusal := e.refusal(snaps); refusal != api.OK {
		return 0, refusal
	}
	s := &snapping{engine: e}
	s.machine = e.begin(snaps, s.hold, s.link, s.show)
	return s.machine.number, api.OK
}

func (s *snapping) hold() bool {
	e := s.engine
	s.number = e.takeNumber()
	e.pinBlocks()
	var memory sets.Set
	memory.Lay(e.frozen.Samples())
	memory.Lay(e.head.Samples())
	if !memory.Empty() {
		own := e.takeNumber()
		s.own = blocks.Range{Lo: own, Hi: own}
		s.ownFile = blocks.Encode(s.own, &memory)
	}
	return false
}

func (s *snapping) link() bool {
	e := s.engine
	for _, p := range e.pins {
		e.disk.Link(p.block.Name(), snapshots.BlockName(s.number, p.block))
	}
	if s.ownFile != "" {
		e.writeFile(snapshots.BlockName(s.number, s.own), s.ownFile)
	}
	return false
}

func (s *snapping) show() bool {
	e := s.engine
	defer e.unpin()
	e.writeFile(manifestFile, s.manifest())
	e.showFile(manifestFile, snapshots.ManifestName(s.number))
	s.machine.result = s.number
	return true
}

func (s *snapping) manifest() string {
	var lines []snapshots.Line
	for _, p := range s.engine.pins {
		lines = append(lines, snapshots.LineOf(p.block, s.engine.disk.Read(p.block.Name())))
	}
	// Its number is the newest, so it is above all others.
	if s.ownFile != "" {
		lines = append(lines, snapshots.LineOf(s.own, s.ownFile))
	}
	return snapshots.Manifest(lines)
}

// pin is a block that the snapshot at work needs.
type pin struct {
	block blocks.Range
	// A compaction has done with it: it goes when it is pinned no more.
	doomed bool
}

func (e *Engine) pinBlocks() {
	for _, block := range e.blocks {
		e.pins = append(e.pins, pin{block: block})
	}
}

// doom leaves a block to the snapshot at work; false, if it is not pinned.
func (e *Engine) doom(block blocks.Range) bool {
	at := slices.IndexFunc(e.pins, func(p pin) bool { return p.block == block })
	if at < 0 {
		return false
	}
	e.pins[at].doomed = true
	return true
}

// unpin gives all back that is pinned, and removes what is doomed.
func (e *Engine) unpin() {
	var doomed []string
	for _, p := range e.pins {
		if p.doomed {
			doomed = append(doomed, p.block.Name())
		}
	}
	e.pins = nil
	e.removeFiles(doomed)
}
