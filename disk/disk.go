// Package disk: files and a directory that may lose power, and what is left
// of them then.
package disk

import (
	"maps"
	"slices"
	"strings"

	"silo/api"
)

// file is bytes, the first of which are safe. It may have several names.
type file struct {
	data []byte
	safe int
}

type directory map[string]*file

// step is a step of the directory. It is kept as what it does, so that it can
// be done to the safe directory later on, behind the steps ahead of it.
type step func(directory)

// Disk has files. Once power was lost, no operation does anything any more.
type Disk struct {
	names directory
	// The directory as it was when it was last made safe, and the steps since.
	safe  directory
	steps []step

	options api.Options
	begun   int
	lost    bool
}

// Fit tells whether files can lie on one disk: no two have one name.
func Fit(files []api.File) bool {
	seen := make(map[string]int)
	for _, f := range files {
		seen[f.Name]++
		if seen[f.Name] > 1 {
			return false
		}
	}
	return true
}

// New is a disk with these files, all of it safe. They must fit.
func New(files []api.File, o api.Options) *Disk {
	o.Keeps = slices.Clone(o.Keeps)
	d := &Disk{names: make(directory), options: o}
	for _, f := range files {
		d.names[strings.Clone(f.Name)] = &file{data: []byte(f.Data), safe: len(f.Data)}
	}
	d.safe = maps.Clone(d.names)
	return d
}

// Has tells whether a name is there.
func (d *Disk) Has(name string) bool { return d.names[name] != nil }

// Read is the bytes of the file of a name; none, if it is not there.
func (d *Disk) Read(name string) string {
	if !d.Has(name) {
		return ""
	}
	return string(d.names[name].data)
}

// Files is the names, in rising order, and the bytes of their files.
func (d *Disk) Files() []api.File {
	var out []api.File
	for _, name := range d.sorted() {
		out = append(out, api.File{Name: strings.Clone(name), Data: d.Read(name)})
	}
	return out
}

func (d *Disk) sorted() []string { return slices.Sorted(maps.Keys(d.names)) }

// Lost tells whether power was lost.
func (d *Disk) Lost() bool { return d.lost }
