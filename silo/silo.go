// Package silo: samples, snapshots, archives: see DOC.md.
package silo

import (
	"silo/api"
	"silo/blocks"
	"silo/sets"
)

// Engine is an engine with its machines.
type Engine struct{}

// Open opens an engine (P4).
func Open(files []api.File, o api.Options) (*Engine, api.Errno) { return nil, api.OK }

// Append begins a machine that appends (P5).
func (e *Engine) Append(batch []api.Sample) (int, api.Errno) { return 0, api.OK }

// Cut begins a machine that cuts (P6).
func (e *Engine) Cut() (int, api.Errno) { return 0, api.OK }

// Compact begins a machine that compacts (P7).
func (e *Engine) Compact() (int, api.Errno) { return 0, api.OK }

// Snapshot begins a machine that takes a snapshot (P8).
func (e *Engine) Snapshot() (int, api.Errno) { return 0, api.OK }

// Move has a machine take its next step (P9).
func (e *Engine) Move(machine int) (bool, int, api.Errno) { return false, 0, api.OK }

// Query tells points (P10).
func (e *Engine) Query(series int, from int, to int) ([]api.Point, api.Errno) { return nil, api.OK }

// Manifest tells what a snapshot is made of (P11).
func (e *Engine) Manifest(snapshot int) (string, api.Errno) { return "", api.OK }

// Backup is a snapshot as an archive (P12).
func (e *Engine) Backup(snapshot int, base string) (string, api.Errno) { return "", api.OK }

// Files tells what is on the disk (P14).
func (e *Engine) Files() []api.File { return nil }

// Restore makes files of archives (P13).
func Restore(archives []string) ([]api.File, api.Errno) { return nil, api.OK }

// Block is samples as a file (P3).
func Block(lo int, hi int, samples []api.Sample) (string, api.Errno) {
	if !blocks.IsRange(lo, hi) {
		return "", api.ErrCorrupt
	}
	if !sets.Fits(samples) {
		return "", api.ErrBatch
	}
	var set sets.Set
	set.Lay(samples)
	return blocks.Encode(lo, hi, &set), api.OK
}

// Samples reads a block file (P3).
func Samples(block string) (int, int, []api.Sample, api.Errno) {
	lo, hi, samples, ok := blocks.Decode(block)
	if !ok {
		return 0, 0, nil, api.ErrCorrupt
	}
	return lo, hi, samples, api.OK
}
