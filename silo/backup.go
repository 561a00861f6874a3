package silo

import (
	"silo/api"
	"silo/chains"
	"silo/snapshots"
)

// Manifest tells what a snapshot is made of (P11). A snapshot is there if its
// manifest is: Open removes those of others, and it gets its name at the end.
func (e *Engine) Manifest(snapshot int) (string, api.Errno) {
	if e.fault != api.OK {
		return "", e.fault
	}
	name := snapshots.ManifestName(snapshot)
	if !e.disk.Has(name) {
		return "", api.ErrSnapshot
	}
	return e.disk.Read(name), api.OK
}

// Backup is a snapshot as an archive (P12).
func (e *Engine) Backup(snapshot int, base string) (string, api.Errno) {
	manifest, err := e.Manifest(snapshot)
	if err != api.OK {
		return "", err
	}
	old, right := snapshots.Lines(base)
	if base != "" && !right {
		return "", api.ErrChain
	}
	lines, _ := snapshots.Lines(manifest)
	archive := chains.Archive{Base: chains.BaseOf(base), Manifest: manifest}
	for _, line := range snapshots.Fresh(lines, old) {
		archive.Files = append(archive.Files, e.disk.Read(snapshots.BlockName(snapshot, line.Range)))
	}
	return archive.Encode(), api.OK
}

// Restore makes files of archives (P13).
func Restore(archives []string) ([]api.File, api.Errno) {
	files, ok := chains.Restore(archives)
	if !ok {
		return nil, api.ErrChain
	}
	return files, api.OK
}
