// Package silo: samples, snapshots, archives: see DOC.md.
package silo

import (
	"slices"

	"silo/api"
	"silo/blocks"
	"silo/sets"
)

// Block is samples as a file (P3).
func Block(lo int, hi int, samples []api.Sample) (string, api.Errno) {
	r := blocks.Range{Lo: lo, Hi: hi}
	if !r.Fits() {
		return "", api.ErrCorrupt
	}
	if !sets.Fits(samples) {
		return "", api.ErrBatch
	}
	var set sets.Set
	set.Lay(slices.Values(samples))
	return blocks.Encode(r, &set), api.OK
}

// Samples reads a block file (P3).
func Samples(block string) (int, int, []api.Sample, api.Errno) {
	r, samples, ok := blocks.Decode(block)
	if !ok {
		return 0, 0, nil, api.ErrCorrupt
	}
	return r.Lo, r.Hi, samples, api.OK
}
