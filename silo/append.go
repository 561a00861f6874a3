package silo

import (
	"slices"

	"silo/api"
	"silo/logs"
)

// appending is an Append at work.
type appending struct {
	engine *Engine
	batch  []api.Sample
	log    string // the one that has the frame
}

// Append begins a machine that appends (P5).
func (e *Engine) Append(batch []api.Sample) (int, api.Errno) {
	if e.fault != api.OK {
		return 0, e.fault
	}
	if !logs.Fits(batch) {
		return 0, api.ErrBatch
	}
	a := &appending{engine: e, batch: slices.Clone(batch)}
	return e.begin(appends, a.write, a.sync).number, api.OK
}

func (a *appending) write() bool {
	e := a.engine
	a.log = e.written()
	e.disk.Append(a.log, logs.Frame(a.batch))
	e.head.Lay(slices.Values(a.batch))
	return false
}

// sync need not sync a log that a cut has removed: its samples lie in a block.
func (a *appending) sync() bool {
	if a.engine.disk.Has(a.log) {
		a.engine.disk.Sync(a.log)
	}
	return true
}

// written is the name of the log that is written to.
func (e *Engine) written() string { return logs.Name(e.live[len(e.live)-1]) }
