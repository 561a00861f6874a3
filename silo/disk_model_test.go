package silo_test

import (
	"maps"
	"slices"

	"silo/api"
)

// op: an operation of the disk, as the document names it.
type op struct {
	what, name, other, data string
	n                       int
}

// modelDisk: what one gets by operations from the beginning on. A file is the
// number of the operation that created it, or below 0, if it was given.
type modelDisk struct {
	names, safeNames map[string]int
	steps            []op
	made             []int
	data             map[int]string
	safe             map[int]int
}

// taken: a directory behind a step.
func taken(names map[string]int, o op, file int) {
	switch o.what {
	case "CREATE":
		names[o.name] = file
	case "LINK":
		names[o.other] = names[o.name]
	case "RENAME":
		names[o.other] = names[o.name]
		delete(names, o.name)
	case "REMOVE":
		delete(names, o.name)
	}
}

func diskOf(given []api.File, ops []op) *modelDisk {
	d := &modelDisk{names: map[string]int{}, data: map[int]string{}, safe: map[int]int{}}
	for i, f := range given {
		d.names[f.Name], d.data[-1-i], d.safe[-1-i] = -1-i, f.Data, len(f.Data)
	}
	d.safeNames = maps.Clone(d.names)
	for i, o := range ops {
		file := d.names[o.name]
		switch o.what {
		case "APPEND":
			d.data[file] += o.data
		case "CUTOFF":
			d.data[file] = d.data[file][:o.n]
			d.safe[file] = min(d.safe[file], o.n)
		case "SYNC":
			d.safe[file] = len(d.data[file])
		case "SYNCDIR":
			d.safeNames, d.steps, d.made = maps.Clone(d.names), nil, nil
		default:
			taken(d.names, o, i)
			d.steps, d.made = append(d.steps, o), append(d.made, i)
		}
	}
	return d
}

// now: the files behind operations.
func now(given []api.File, ops []op) []api.File {
	d := diskOf(given, ops)
	var out []api.File
	for _, name := range slices.Sorted(maps.Keys(d.names)) {
		out = append(out, api.File{Name: name, Data: d.data[d.names[name]]})
	}
	return out
}

// left: the files that are left if power is lost behind operations.
func left(given []api.File, ops []op, o api.Options) []api.File {
	d := diskOf(given, ops)
	for i := range min(o.Dirs, len(d.steps)) {
		taken(d.safeNames, d.steps[i], d.made[i])
	}
	var out []api.File
	kept := map[int]string{}
	for i, name := range slices.Sorted(maps.Keys(d.safeNames)) {
		file := d.safeNames[name]
		if _, ok := kept[file]; !ok {
			keep := 0
			if len(o.Keeps) > 0 {
				keep = o.Keeps[i%len(o.Keeps)]
			}
			data := d.data[file]
			kept[file] = data[:d.safe[file]+min(keep, len(data)-d.safe[file])]
		}
		out = append(out, api.File{Name: name, Data: kept[file]})
	}
	return out
}
