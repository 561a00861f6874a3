package disk

import (
	"math"
	"slices"
	"testing"

	"silo/api"
)

var quiet = api.Options{Crash: api.Never}

// files: of name, data, name, data, ..
func files(l ...string) []api.File {
	var out []api.File
	for i := 0; i+1 < len(l); i += 2 {
		out = append(out, api.File{Name: l[i], Data: l[i+1]})
	}
	return out
}

func wantFiles(t *testing.T, why string, d *Disk, want ...string) {
	t.Helper()
	if got := d.Files(); !slices.Equal(got, files(want...)) {
		t.Errorf("%s: %q, want %q", why, got, files(want...))
	}
}

func TestFit(t *testing.T) {
	for _, l := range [][]string{{}, {"a", ""}, {"a", "x", "b", "x"}, {"", "", "a", ""}} {
		if !Fit(files(l...)) {
			t.Errorf("%q do not fit", l)
		}
	}
	for _, l := range [][]string{{"a", "x", "a", "x"}, {"a", "x", "b", "", "a", "y"}, {"", "", "", ""}} {
		if Fit(files(l...)) {
			t.Errorf("%q fit", l)
		}
	}
}

func TestFilesAreToldByRisingNames(t *testing.T) {
	d := New(files("w2", "b", "w10", "a", "", "c", "b1.1", "d", "\xff", "e"), quiet)
	wantFiles(t, "new", d, "", "c", "b1.1", "d", "w10", "a", "w2", "b", "\xff", "e")
	if !d.Has("") || d.Has("w") || d.Read("w10") != "a" || d.Read("w") != "" || d.Lost() {
		t.Errorf("Has, Read, Lost: %t, %t, %q, %q, %t", d.Has(""), d.Has("w"), d.Read("w10"), d.Read("w"), d.Lost())
	}
}

func TestOperations(t *testing.T) {
	d := New(files("old", "12345"), quiet)
	d.Create("a")
	d.Append("a", "xy")
	d.Append("a", "z")
	wantFiles(t, "appended", d, "a", "xyz", "old", "12345")
	d.Cutoff("old", 2)
	d.Append("old", "-")
	wantFiles(t, "cut off", d, "a", "xyz", "old", "12-")
	d.Cutoff("old", 0)
	d.Link("a", "b")
	d.Append("b", "!")
	wantFiles(t, "linked", d, "a", "xyz!", "b", "xyz!", "old", "")
	d.Rename("a", "old")
	wantFiles(t, "renamed on another", d, "b", "xyz!", "old", "xyz!")
	d.Create("b")
	wantFiles(t, "created in the place of another", d, "b", "", "old", "xyz!")
	d.Rename("b", "b")
	d.Sync("old")
	d.SyncDir()
	wantFiles(t, "renamed to itself", d, "b", "", "old", "xyz!")
	d.Remove("old")
	wantFiles(t, "removed", d, "b", "")
}

func TestDisksShareNothingWithWhatTheyWereGiven(t *testing.T) {
	given := files("a", "x")
	o := api.Options{Crash: 1, Keeps: []int{1}}
	d, other := New(given, o), New(given, o)
	given[0] = api.File{Name: "b", Data: "y"}
	o.Keeps[0] = 0
	d.Append("a", "zz")
	d.Append("a", "zz")
	wantFiles(t, "behind the loss", d, "a", "xz")
	wantFiles(t, "the other one", other, "a", "x")
	got := other.Files()
	got[0] = api.File{}
	wantFiles(t, "behind what was written into an answer", other, "a", "x")
}

func TestNothingIsDoneBehindTheLoss(t *testing.T) {
	for _, do := range []func(d *Disk){
		func(d *Disk) { d.Create("new") }, func(d *Disk) { d.Append("a", "x") }, func(d *Disk) { d.Cutoff("a", 0) }, func(d *Disk) { d.Sync("a") },
		func(d *Disk) { d.Link("a", "b") }, func(d *Disk) { d.Rename("a", "b") }, func(d *Disk) { d.Remove("a") }, func(d *Disk) { d.SyncDir() },
	} {
		d := New(files("a", "1"), api.Options{Crash: 1, Keeps: []int{5}, Dirs: 9})
		d.Append("a", "2")
		if d.Lost() {
			t.Error("lost too early")
		}
		for range 3 {
			do(d)
			if !d.Lost() {
				t.Error("not lost")
			}
			wantFiles(t, "behind the loss", d, "a", "12")
		}
	}
}

func TestEveryOperationIsCounted(t *testing.T) {
	d := New(files("a", "1"), api.Options{Crash: 8})
	d.Create("b")
	d.Append("b", "x")
	d.Cutoff("a", 0)
	d.Sync("b")
	d.Link("b", "c")
	d.Rename("c", "e")
	d.Remove("a")
	d.SyncDir()
	if d.Lost() {
		t.Error("lost ahead of operation 8")
	}
	wantFiles(t, "all done", d, "b", "x", "e", "x")
	d.Create("f")
	if !d.Lost() {
		t.Error("not lost ahead of operation 8")
	}
	wantFiles(t, "lost", d, "b", "x", "e", "x")
}

func TestWhatBytesAreLeft(t *testing.T) {
	for _, c := range []struct {
		keeps []int
		want  []string
	}{
		{nil, []string{"a", "1", "b", "2", "c", "3"}},
		{[]int{0}, []string{"a", "1", "b", "2", "c", "3"}},
		{[]int{1}, []string{"a", "1x", "b", "2x", "c", "3x"}},
		{[]int{0, 2}, []string{"a", "1", "b", "2xy", "c", "3"}},
		{[]int{3, 0, 4}, []string{"a", "1xyz", "b", "2", "c", "3xyz"}},
		{[]int{math.MaxInt}, []string{"a", "1xyz", "b", "2xyz", "c", "3xyz"}},
		{[]int{0, 0, 0, 3}, []string{"a", "1", "b", "2", "c", "3"}},
	} {
		d := New(files("a", "1", "b", "2", "c", "3"), api.Options{Crash: 3, Keeps: c.keeps})
		for _, name := range []string{"c", "b", "a"} {
			d.Append(name, "xyz")
		}
		d.SyncDir()
		wantFiles(t, "lost", d, c.want...)
	}
}

// TestNamesAreNumberedAsTheyAreThen: not as they were, or would have been.
func TestNamesAreNumberedAsTheyAreThen(t *testing.T) {
	for dirs, want := range [][]string{
		{"a", "1x", "z", "2"},
		{"a", "1x", "b", "", "z", "2y"},
		{"b", "w", "z", "2"},
	} {
		d := New(files("a", "1", "z", "2"), api.Options{Crash: 5, Keeps: []int{1, 0, 1}, Dirs: dirs})
		d.Append("a", "x")
		d.Append("z", "y")
		d.Create("b")
		d.Append("b", "w")
		d.Remove("a")
		d.SyncDir()
		wantFiles(t, "lost", d, want...)
	}
}

func TestAFileWithSeveralNamesKeepsWhatTheFirstSays(t *testing.T) {
	for _, c := range []struct {
		keeps []int
		want  string
	}{{[]int{1, 2}, "1x"}, {[]int{2, 1}, "1xy"}, {[]int{0, 3}, "1"}, {[]int{3, 0}, "1xyz"}} {
		d := New(files("b", "1"), api.Options{Crash: 2, Keeps: c.keeps, Dirs: 1})
		d.Link("b", "a")
		d.Append("b", "xyz")
		d.SyncDir()
		wantFiles(t, "lost", d, "a", c.want, "b", c.want)
	}
}

func TestSyncMakesSafeAndCutoffIsAtOnce(t *testing.T) {
	d := New(files("a", "123"), api.Options{Crash: 5})
	d.Append("a", "4")
	d.Sync("a")
	d.Append("a", "5")
	d.Cutoff("a", 2)
	d.Append("a", "x")
	d.SyncDir()
	wantFiles(t, "lost", d, "a", "12")
}

func TestWhatStepsAreLeft(t *testing.T) {
	for dirs, want := range [][]string{
		{"a", "1", "b", "2"},
		{"a", "1", "b", "2", "t", ""},
		{"a", "1", "b", "2", "l", "1", "t", ""},
		{"a", "1", "b", "", "l", "1"},
		{"b", "", "l", "1"},
		{"b", "", "l", "1"},
	} {
		d := New(files("a", "1"), api.Options{Crash: 8, Dirs: dirs})
		d.Create("b")
		d.Append("b", "2")
		d.Sync("b")
		d.SyncDir()
		d.Create("t")
		d.Link("a", "l")
		d.Rename("t", "b")
		d.Remove("a")
		d.SyncDir()
		wantFiles(t, "lost", d, want...)
	}
}
