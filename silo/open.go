package silo

import (
	"silo/api"
	"silo/disk"
	"silo/logs"
	"silo/survey"
)

// Open opens an engine (P4).
func Open(files []api.File, o api.Options) (*Engine, api.Errno) {
	if !disk.Fit(files) {
		return nil, api.ErrDisk
	}
	if !optionsFit(o) {
		return nil, api.ErrOption
	}
	e := &Engine{disk: disk.New(files, o), machines: make(map[int]*machine)}
	e.fault = e.start()
	return e, e.fault
}

func optionsFit(o api.Options) bool {
	if o.Crash < api.Never || o.Dirs < 0 {
		return false
	}
	for _, keep := range o.Keeps {
		if keep < 0 {
			return false
		}
	}
	return true
}

// start takes up what the disk has.
func (e *Engine) start() api.Errno {
	found, ok := survey.Of(e.disk.Files())
	if !ok {
		return api.ErrCorrupt
	}
	e.tidy(found)
	if fault := e.checkPower(); fault != api.OK {
		return fault
	}
	if found.Next > api.MaxNumber {
		return api.ErrFull
	}
	e.blocks, e.head, e.next = found.Blocks, found.Head, found.Next
	e.live = append(found.Logs, e.createLog())
	return e.checkPower()
}

// tidy takes from the disk what a loss of power left undone.
func (e *Engine) tidy(found survey.Survey) {
	for _, torn := range found.Torn {
		e.disk.Cutoff(torn.Log, torn.Size)
		e.disk.Sync(torn.Log)
	}
	e.removeFiles(found.Goes)
}

// createLog makes a log of the next number safe in the directory.
func (e *Engine) createLog() int {
	number := e.takeNumber()
	e.disk.Create(logs.Name(number))
	e.disk.SyncDir()
	return number
}
