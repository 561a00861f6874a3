// Package silo: samples, snapshots, archives: see DOC.md.
package silo

import (
	"slices"

	"silo/api"
	"silo/blocks"
	"silo/sets"
)

// Block is samples as a file (P3).
func Block(lo int, hi int, samples []api.Sample) (string, api.Errno) {
	if !blocks.IsRange(lo, hi) {
		return "", api.ErrCorrupt
	}
	if !sets.Fits(samples) {
		return "", api.ErrBatch
	}
	var set sets.Set
	set.Lay(slices.Values(samples))
	return blocks.Encode(lo, hi, &set), api.OK
}

// Samples reads a block file (P3).
func Samples(block string) (int, int, []api.Sample, api.Errno) {
	lo, hi, samples, ok := blocks.Decode(block)
	if !ok {
		return 0, 0, nil, api.ErrCorrupt
	}
	return lo, hi, samples, api.OK
}

// The calls below are not built yet: they answer nothing, but for the fault of
// the engine.

// Compact begins a machine that compacts (P7).
func (e *Engine) Compact() (int, api.Errno) { return 0, e.fault }

// Snapshot begins a machine that takes a snapshot (P8).
func (e *Engine) Snapshot() (int, api.Errno) { return 0, e.fault }

// Manifest tells what a snapshot is made of (P11).
func (e *Engine) Manifest(snapshot int) (string, api.Errno) { return "", e.fault }

// Backup is a snapshot as an archive (P12).
func (e *Engine) Backup(snapshot int, base string) (string, api.Errno) { return "", e.fault }

// Restore makes files of archives (P13).
func Restore(archives []string) ([]api.File, api.Errno) { return nil, api.OK }
