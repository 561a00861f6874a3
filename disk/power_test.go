package disk

import (
	"math"
	"slices"
	"testing"

	"silo/api"
)

// wantLeft: what is left of a disk with "a" and "b" (of two safe bytes each)
// when power is lost behind some operations, by how many steps are left.
func wantLeft(t *testing.T, do func(d *Disk), keeps []int, want map[int][]string) {
	t.Helper()
	given := files("a", "a1", "b", "b1")
	whole := New(given, quiet)
	do(whole)
	for dirs, left := range want {
		d := New(given, api.Options{Crash: whole.begun, Dirs: dirs, Keeps: keeps})
		do(d)
		if d.Lost() || !slices.Equal(d.Files(), whole.Files()) {
			t.Errorf("ahead of the loss: %q, want %q", d.Files(), whole.Files())
		}
		for range 3 {
			d.SyncDir()
			wantFiles(t, "lost", d, left...)
		}
	}
}

// TestCreateOnANameThatIsThere: until the step is left, the old file comes
// back, with what is left of it.
func TestCreateOnANameThatIsThere(t *testing.T) {
	do := func(d *Disk) {
		d.Append("a", "xyz")
		d.Create("a")
		d.Append("a", "new")
	}
	for keep, want := range []struct{ old, new string }{{"a1", ""}, {"a1x", "n"}, {"a1xy", "ne"}, {"a1xyz", "new"}, {"a1xyz", "new"}} {
		wantLeft(t, do, []int{keep}, map[int][]string{
			0: {"a", want.old, "b", "b1"}, 1: {"a", want.new, "b", "b1"}, 2: {"a", want.new, "b", "b1"}, math.MaxInt: {"a", want.new, "b", "b1"},
		})
	}
}

func TestCreateThatIsSafeOfAFileThatIsNot(t *testing.T) {
	do := func(d *Disk) {
		d.Create("a")
		d.SyncDir()
		d.Append("a", "new")
	}
	wantLeft(t, do, nil, map[int][]string{0: {"a", "", "b", "b1"}, 1: {"a", "", "b", "b1"}})
	wantLeft(t, do, []int{2}, map[int][]string{0: {"a", "ne", "b", "b1"}, 9: {"a", "ne", "b", "b1"}})
}

// TestRenameOnANameThatIsThere: both names come back until the step is left.
func TestRenameOnANameThatIsThere(t *testing.T) {
	do := func(d *Disk) {
		d.Create("t")
		d.Append("t", "t1")
		d.Sync("t")
		d.Rename("t", "a")
	}
	wantLeft(t, do, nil, map[int][]string{
		0: {"a", "a1", "b", "b1"}, 1: {"a", "a1", "b", "b1", "t", "t1"}, 2: {"a", "t1", "b", "b1"}, 3: {"a", "t1", "b", "b1"}, math.MaxInt: {"a", "t1", "b", "b1"},
	})
}

// TestRenameOfAFileThatIsNotSafe: its name is left, its bytes are not.
func TestRenameOfAFileThatIsNotSafe(t *testing.T) {
	do := func(d *Disk) {
		d.Append("b", "xyz")
		d.Rename("b", "a")
		d.SyncDir()
		d.Append("a", "!")
	}
	wantLeft(t, do, nil, map[int][]string{0: {"a", "b1"}})
	wantLeft(t, do, []int{3, 4}, map[int][]string{0: {"a", "b1xyz"}})
	wantLeft(t, do, []int{math.MaxInt}, map[int][]string{0: {"a", "b1xyz!"}})
}

// TestRenameToAnotherNameOfTheFile: one of its names is left.
func TestRenameToAnotherNameOfTheFile(t *testing.T) {
	do := func(d *Disk) {
		d.Link("a", "c")
		d.Rename("c", "a")
	}
	wantLeft(t, do, nil, map[int][]string{
		0: {"a", "a1", "b", "b1"}, 1: {"a", "a1", "b", "b1", "c", "a1"}, 2: {"a", "a1", "b", "b1"},
	})
}

// TestALinkOutlivesTheNameItWasMadeOf: what is removed or made anew is the
// name, not the file.
func TestALinkOutlivesTheNameItWasMadeOf(t *testing.T) {
	do := func(d *Disk) {
		d.Link("b", "c")
		d.Remove("b")
		d.Create("b")
		d.Append("c", "xyz")
		d.Append("b", "new")
	}
	wantLeft(t, do, []int{0, 1, 2}, map[int][]string{
		0: {"a", "a1", "b", "b1x"},
		1: {"a", "a1", "b", "b1x", "c", "b1x"},
		2: {"a", "a1", "c", "b1x"},
		3: {"a", "a1", "b", "n", "c", "b1xy"},
		4: {"a", "a1", "b", "n", "c", "b1xy"},
	})
}

// TestSyncByOneNameIsOfAllOthers of the file.
func TestSyncByOneNameIsOfAllOthers(t *testing.T) {
	do := func(d *Disk) {
		d.Link("b", "c")
		d.Append("b", "xyz")
		d.Sync("c")
	}
	wantLeft(t, do, nil, map[int][]string{0: {"a", "a1", "b", "b1xyz"}, 1: {"a", "a1", "b", "b1xyz", "c", "b1xyz"}})
}

// TestCutoffAheadOfALoss: what is behind is gone at once; what comes in its
// place is not safe, whether the old bytes were or not.
func TestCutoffAheadOfALoss(t *testing.T) {
	short := func(d *Disk) { d.Cutoff("a", 1) }
	anew := func(d *Disk) {
		d.Cutoff("a", 1)
		d.Append("a", "xyz")
	}
	behind := func(d *Disk) {
		d.Append("a", "xyz")
		d.Cutoff("a", 4)
	}
	for keep, want := range []struct{ short, anew, behind string }{{"a", "a", "a1"}, {"a", "ax", "a1x"}, {"a", "axy", "a1xy"}, {"a", "axyz", "a1xy"}, {"a", "axyz", "a1xy"}} {
		keeps := []int{keep}
		wantLeft(t, short, keeps, map[int][]string{0: {"a", want.short, "b", "b1"}})
		wantLeft(t, anew, keeps, map[int][]string{0: {"a", want.anew, "b", "b1"}})
		wantLeft(t, behind, keeps, map[int][]string{0: {"a", want.behind, "b", "b1"}})
	}
}

// TestPowerThatIsNeverLost: the operation is not come to.
func TestPowerThatIsNeverLost(t *testing.T) {
	for _, crash := range []int{api.Never, 2, math.MaxInt} {
		d := New(files("a", "a1"), api.Options{Crash: crash, Dirs: 1, Keeps: []int{1}})
		d.Append("a", "xyz")
		d.Create("b")
		if d.Lost() {
			t.Errorf("crash %d: lost", crash)
		}
		wantFiles(t, "not lost", d, "a", "a1xyz", "b", "")
	}
}
