// Package snapshots: the names of a snapshot's files, and its manifest.
package snapshots

import (
	"strconv"
	"strings"

	"silo/api"
	"silo/blocks"
	"silo/codes"
)

// A name begins with letter and the snapshot's number, then a dot; the
// manifest's ends with last, a block's with the block's name.
const (
	letter = "s"
	last   = "m"
)

// ManifestName is the name of a snapshot's manifest.
func ManifestName(snapshot int) string { return prefix(snapshot) + last }

// BlockName is the name that a block has in a snapshot.
func BlockName(snapshot int, r blocks.Range) string { return prefix(snapshot) + r.Name() }

func prefix(snapshot int) string { return letter + strconv.Itoa(snapshot) + "." }

// FromManifestName is the number of the snapshot whose manifest has this name.
func FromManifestName(name string) (int, bool) {
	snapshot, rest, ok := parted(name)
	if !ok || rest != last {
		return 0, false
	}
	return snapshot, true
}

// FromBlockName is the number of the snapshot that has a block of this name,
// and the block's range.
func FromBlockName(name string) (int, blocks.Range, bool) {
	snapshot, rest, ok := parted(name)
	r, isBlock := blocks.FromName(rest)
	if !ok || !isBlock {
		return 0, blocks.Range{}, false
	}
	return snapshot, r, true
}

// parted is the number of a snapshot, and what stands behind it in a name.
func parted(name string) (snapshot int, rest string, ok bool) {
	body, lettered := strings.CutPrefix(name, letter)
	number, rest, dotted := strings.Cut(body, ".")
	snapshot, fits := codes.Decimal(number, api.MaxNumber)
	return snapshot, rest, lettered && dotted && fits
}
