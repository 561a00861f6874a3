package disk

import (
	"maps"
	"math/rand"
	"slices"
	"testing"

	"silo/api"
)

// deed: an operation that was done. A file is the number of the deed that
// created it, or below 0, if it was there at first.
type deed struct {
	what, name, other, data string
	n, file                 int
}

func isStep(d deed) bool {
	return slices.Contains([]string{"create", "link", "rename", "remove"}, d.what)
}

// after: the directory behind some steps.
func after(first map[string]int, deeds []deed) map[string]int {
	names := maps.Clone(first)
	for _, d := range deeds {
		switch d.what {
		case "create":
			names[d.name] = d.file
		case "link":
			names[d.other] = names[d.name]
		case "rename":
			file := names[d.name]
			delete(names, d.name)
			names[d.other] = file
		case "remove":
			delete(names, d.name)
		}
	}
	return names
}

// left: what is left of deeds, worked out from the beginning. Of the steps
// behind the last syncdir the first ones are left: those are picked ahead.
func left(given []api.File, deeds []deed, o api.Options) []api.File {
	first, data, safe := map[string]int{}, map[int]string{}, map[int]int{}
	for i, f := range given {
		first[f.Name], data[-1-i], safe[-1-i] = -1-i, f.Data, len(f.Data)
	}
	for _, d := range deeds {
		switch d.what {
		case "append":
			data[d.file] += d.data
		case "cutoff":
			data[d.file] = data[d.file][:d.n]
			safe[d.file] = min(safe[d.file], d.n)
		case "sync":
			safe[d.file] = len(data[d.file])
		}
	}
	last := 0
	for i, d := range deeds {
		if d.what == "syncdir" {
			last = i
		}
	}
	done := slices.Clone(deeds[:last])
	more := 0
	for _, d := range deeds[last:] {
		if isStep(d) && more < o.Dirs {
			done = append(done, d)
			more++
		}
	}
	names := after(first, done)
	var out []api.File
	kept := map[int]string{}
	for i, name := range slices.Sorted(maps.Keys(names)) {
		file := names[name]
		if _, ok := kept[file]; !ok {
			keep := 0
			if len(o.Keeps) > 0 {
				keep = o.Keeps[i%len(o.Keeps)]
			}
			kept[file] = data[file][:min(len(data[file]), safe[file]+keep)]
		}
		out = append(out, api.File{Name: name, Data: kept[file]})
	}
	return out
}

// act does a deed that can be done now; what it did.
func act(d *Disk, names map[string]int, number int, r *rand.Rand) deed {
	all := slices.Sorted(maps.Keys(names))
	fresh := string('a' + rune(r.Intn(6)))
	if len(all) == 0 || r.Intn(6) == 0 {
		d.Create(fresh)
		return deed{what: "create", name: fresh, file: number}
	}
	name := all[r.Intn(len(all))]
	file := names[name]
	switch r.Intn(8) {
	case 0, 1:
		data := "0123456789"[:r.Intn(11)]
		d.Append(name, data)
		return deed{what: "append", file: file, data: data}
	case 2:
		n := r.Intn(len(d.Read(name)) + 1)
		d.Cutoff(name, n)
		return deed{what: "cutoff", file: file, n: n}
	case 3:
		d.Sync(name)
		return deed{what: "sync", file: file}
	case 4:
		d.Link(name, fresh)
		return deed{what: "link", name: name, other: fresh}
	case 5:
		d.Rename(name, fresh)
		return deed{what: "rename", name: name, other: fresh}
	case 6:
		d.Remove(name)
		return deed{what: "remove", name: name}
	}
	d.SyncDir()
	return deed{what: "syncdir"}
}

func TestDiskAgainstTheModel(t *testing.T) {
	given := files("a", "123", "x", "")
	for seed := range int64(3000) {
		r := rand.New(rand.NewSource(seed))
		o := api.Options{Crash: r.Intn(40), Dirs: r.Intn(6)}
		for range r.Intn(4) {
			o.Keeps = append(o.Keeps, r.Intn(12))
		}
		d := New(given, o)
		var deeds []deed
		for !d.Lost() {
			names := after(map[string]int{"a": -1, "x": -2}, deeds)
			did := act(d, names, len(deeds), r)
			if d.Lost() {
				break
			}
			deeds = append(deeds, did)
		}
		if len(deeds) != o.Crash {
			t.Fatalf("seed %d: lost behind %d operations, want %d", seed, len(deeds), o.Crash)
		}
		if got, want := d.Files(), left(given, deeds, o); !slices.Equal(got, want) {
			t.Fatalf("seed %d: behind %v: %q, want %q", seed, deeds, got, want)
		}
	}
}
