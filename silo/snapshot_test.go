package silo_test

import (
	"fmt"
	"slices"
	"testing"

	"silo/api"
	"silo/silo"
)

func wantResult(t *testing.T, e *silo.Engine, machine, result int) {
	t.Helper()
	if done, got, err := e.Move(machine); !done || got != result || err != api.OK {
		t.Errorf("P8, P9: Move(%d) = %t, %d, %d, want true, %d", machine, done, got, err, result)
	}
}

// snap: a Snapshot from its beginning to its end: its number.
func snap(t *testing.T, e *silo.Engine) int {
	t.Helper()
	n, err := e.Snapshot()
	if err != api.OK {
		t.Fatalf("P8: Snapshot: %d", err)
	}
	steps(t, e, n, 2, false)
	done, k, err := e.Move(n)
	if !done || err != api.OK {
		t.Fatalf("P8: Move = %t, %d, %d", done, k, err)
	}
	return k
}

func TestSnapshotStepByStep(t *testing.T) {
	e := open(t, quiet)
	cutOf(t, e, api.Sample{Series: 1, Time: 1, Value: 1})
	cutOf(t, e, api.Sample{Series: 1, Time: 2, Value: 2})
	x, y := one(0, 0, 1, 1), one(1, 1, 2, 2)
	n, _ := e.Snapshot()
	wantFiles(t, "begun", e, "b0.0", x, "b1.1", y, "w2", "")
	wantMove(t, e, n, false)
	wantFiles(t, "step 1", e, "b0.0", x, "b1.1", y, "w2", "")
	wantMove(t, e, n, false)
	wantFiles(t, "step 2", e, "b0.0", x, "b1.1", y, "s3.b0.0", x, "s3.b1.1", y, "w2", "")
	if text, err := e.Manifest(3); text != "" || err != api.ErrSnapshot {
		t.Errorf("P11: Manifest of one that is not done = %q, %d", text, err)
	}
	wantResult(t, e, n, 3)
	wantFiles(t, "step 3", e, "b0.0", x, "b1.1", y, "s3.b0.0", x, "s3.b1.1", y, "s3.m", manifestOf("b0.0", x, "b1.1", y), "w2", "")
	wantNoMachine(t, e, n)
}

// TestSnapshotOfTheHead: its block has what the head had at its first step.
func TestSnapshotOfTheHead(t *testing.T) {
	e := open(t, quiet)
	put(t, e, api.Sample{Series: 1, Time: 1, Value: 1})
	n, _ := e.Snapshot()
	put(t, e, api.Sample{Series: 1, Time: 2, Value: 2})
	wantMove(t, e, n, false)
	put(t, e, api.Sample{Series: 1, Time: 1, Value: 9}, api.Sample{Series: 1, Time: 3, Value: 3})
	log := frameOf(1, 1) + frameOf(2, 2) + modelFrame([]api.Sample{{Series: 1, Time: 1, Value: 9}, {Series: 1, Time: 3, Value: 3}})
	own := modelFile(2, 2, []api.Sample{{Series: 1, Time: 1, Value: 1}, {Series: 1, Time: 2, Value: 2}})
	wantFiles(t, "step 1", e, "w0", log)
	wantMove(t, e, n, false)
	wantFiles(t, "step 2", e, "s1.b2.2", own, "w0", log)
	wantResult(t, e, n, 1)
	wantFiles(t, "step 3", e, "s1.b2.2", own, "s1.m", manifestOf("b2.2", own), "w0", log)
	wantQuery(t, e, 1, least, greatest, api.Point{Time: 1, Value: 9}, api.Point{Time: 2, Value: 2}, api.Point{Time: 3, Value: 3})
}

func TestSnapshotOfNothing(t *testing.T) {
	e := open(t, quiet)
	if k := snap(t, e); k != 1 {
		t.Errorf("P8: its number is %d", k)
	}
	wantFiles(t, "of nothing", e, "s1.m", "silo\n", "w0", "")
	// An Append that took no step has nothing in the head.
	e.Append([]api.Sample{{}})
	if k := snap(t, e); k != 2 {
		t.Errorf("P8: its number is %d", k)
	}
	wantFiles(t, "of nothing", e, "s1.m", "silo\n", "s2.m", "silo\n", "w0", "")
}

// TestSnapshotWhileACutIsAtWork: behind each of its steps, with something in
// the head and without.
func TestSnapshotWhileACutIsAtWork(t *testing.T) {
	for behind := range 5 {
		for _, head := range []bool{false, true} {
			e := open(t, quiet)
			cutOf(t, e, api.Sample{Series: 1, Time: 0, Value: 10}, api.Sample{Series: 1, Time: 1, Value: 10})
			frozen := []api.Sample{{Series: 1, Time: 1, Value: 20}, {Series: 1, Time: 2, Value: 20}}
			above := []api.Sample{{Series: 1, Time: 2, Value: 30}, {Series: 1, Time: 3, Value: 30}}
			put(t, e, frozen...)
			c, _ := e.Cut()
			steps(t, e, c, behind, behind == 4)
			k := 3
			if behind == 0 {
				k = 2
			}
			var memory []api.Sample
			if behind < 3 {
				memory = frozen
			}
			if head {
				put(t, e, above...)
				memory = slices.Concat(memory, above)
			}
			want := []string{"b0.0", modelFile(0, 0, []api.Sample{{Series: 1, Time: 0, Value: 10}, {Series: 1, Time: 1, Value: 10}})}
			if behind >= 3 {
				want = append(want, "b1.1", modelFile(1, 1, frozen))
			}
			if len(memory) > 0 {
				want = append(want, fmt.Sprintf("b%d.%d", k+1, k+1), modelFile(k+1, k+1, memory))
			}
			if got := snap(t, e); got != k {
				t.Errorf("P8: its number is %d, want %d", got, k)
			}
			if text, err := e.Manifest(k); text != manifestOf(want...) || err != api.OK {
				t.Errorf("P8: behind step %d, head %t: %q, want %q", behind, head, text, manifestOf(want...))
			}
			wantArchive(t, "P8", e, k, "", modelArchive("", manifestOf(want...), dataOf(want)...))
		}
	}
}

// dataOf: of name, data, name, data, .. the data.
func dataOf(l []string) []string {
	var out []string
	for i := 1; i < len(l); i += 2 {
		out = append(out, l[i])
	}
	return out
}

func TestSnapshotIsBusyUntilItIsDone(t *testing.T) {
	e := open(t, quiet)
	put(t, e, api.Sample{Series: 1})
	wantBegun(t, 2)(e.Snapshot())
	for step := 1; step <= 3; step++ {
		before := e.Files()
		wantRefused(t, "P8", api.ErrBusy)(e.Snapshot())
		wantFiles(t, "refused", e, flat(before)...)
		if step < 3 {
			wantMove(t, e, 2, false)
		}
	}
	wantResult(t, e, 2, 1)
	wantBegun(t, 3)(e.Snapshot())
}

func TestKindsAreNotBusyForOneAnother(t *testing.T) {
	e := open(t, quiet)
	put(t, e, api.Sample{})
	wantBegun(t, 2)(e.Cut())
	wantBegun(t, 3)(e.Compact())
	wantBegun(t, 4)(e.Snapshot())
	wantBegun(t, 5)(e.Append([]api.Sample{{}}))
	wantRefused(t, "P6", api.ErrBusy)(e.Cut())
	wantRefused(t, "P7", api.ErrBusy)(e.Compact())
	wantRefused(t, "P8", api.ErrBusy)(e.Snapshot())
	wantMove(t, e, 3, true)
	wantRefused(t, "P6", api.ErrBusy)(e.Cut())
	wantRefused(t, "P8", api.ErrBusy)(e.Snapshot())
	wantBegun(t, 6)(e.Compact())
}

// pinned: an engine with three blocks, of which a snapshot at work has pinned
// all.
func pinned(t *testing.T) (e *silo.Engine, snapshot int) {
	t.Helper()
	e = openFiles(t, files("b0.0", one(0, 0, 0, 0), "b1.1", one(1, 1, 1, 1), "b2.2", one(2, 2, 2, 2)), quiet)
	snapshot, _ = e.Snapshot()
	wantMove(t, e, snapshot, false)
	return e, snapshot
}

func TestWhatIsPinnedIsDoomed(t *testing.T) {
	e, s := pinned(t)
	x, y, z := one(0, 0, 0, 0), one(1, 1, 1, 1), one(2, 2, 2, 2)
	xy := modelFile(0, 1, []api.Sample{{Series: 1, Time: 0, Value: 0}, {Series: 1, Time: 1, Value: 1}})
	xyz := modelFile(0, 2, []api.Sample{{Series: 1, Time: 0, Value: 0}, {Series: 1, Time: 1, Value: 1}, {Series: 1, Time: 2, Value: 2}})
	compact(t, e)
	wantFiles(t, "two are doomed", e, "b0.0", x, "b0.1", xy, "b1.1", y, "b2.2", z, "w3", "")
	compact(t, e) // b0.1 is not pinned
	wantFiles(t, "all three are doomed", e, "b0.0", x, "b0.2", xyz, "b1.1", y, "b2.2", z, "w3", "")
	wantMove(t, e, s, false)
	wantFiles(t, "linked", e, "b0.0", x, "b0.2", xyz, "b1.1", y, "b2.2", z, "s4.b0.0", x, "s4.b1.1", y, "s4.b2.2", z, "w3", "")
	wantResult(t, e, s, 4)
	m := manifestOf("b0.0", x, "b1.1", y, "b2.2", z)
	wantFiles(t, "removed at its end", e, "b0.2", xyz, "s4.b0.0", x, "s4.b1.1", y, "s4.b2.2", z, "s4.m", m, "w3", "")
	wantQuery(t, e, 1, least, greatest, api.Point{Time: 0, Value: 0}, api.Point{Time: 1, Value: 1}, api.Point{Time: 2, Value: 2})
	// Nothing is pinned any more.
	cutOf(t, e, api.Sample{Series: 1, Time: 9, Value: 9})
	compact(t, e)
	wantFiles(t, "behind it", e, "b0.3", modelFile(0, 3, []api.Sample{{Series: 1, Time: 0, Value: 0}, {Series: 1, Time: 1, Value: 1}, {Series: 1, Time: 2, Value: 2}, {Series: 1, Time: 9, Value: 9}}), "s4.b0.0", x, "s4.b1.1", y, "s4.b2.2", z, "s4.m", m, "w5", "")
}

// TestACompactionBetweenTheSteps: which blocks a snapshot has, and which files
// are there at the end, wherever their steps fall.
func TestACompactionBetweenTheSteps(t *testing.T) {
	x, y, z := one(0, 0, 0, 0), one(1, 1, 1, 1), one(2, 2, 2, 2)
	xy := modelFile(0, 1, []api.Sample{{Series: 1, Time: 0, Value: 0}, {Series: 1, Time: 1, Value: 1}})
	old := []string{"b0.0", x, "b1.1", y, "b2.2", z}
	fresh := []string{"b0.1", xy, "b2.2", z}
	// Where the six steps fall: s, of the snapshot, c, of the compaction.
	for order, want := range map[string][]string{
		"sssccc": old, "ssccsc": old, "sscscc": old, "scsscc": old, "scscsc": old, "sccssc": old, "cssscc": old, "csscsc": old, "cscssc": old,
		"scccss": old, "sccscs": old, "scsccs": old, "cscscs": old, "csccss": old, "cssccs": old, "sscccs": old,
		"cccsss": fresh, "ccscss": fresh, "ccsscs": fresh, "ccsssc": fresh,
	} {
		e := openFiles(t, files(old...), quiet)
		s, _ := e.Snapshot()
		c, _ := e.Compact()
		for _, letter := range order {
			machine := s
			if letter == 'c' {
				machine = c
			}
			if _, _, err := e.Move(machine); err != api.OK {
				t.Fatalf("%s: %d", order, err)
			}
			wantQuery(t, e, 1, least, greatest, api.Point{Time: 0, Value: 0}, api.Point{Time: 1, Value: 1}, api.Point{Time: 2, Value: 2})
		}
		all := slices.Clone(fresh)
		for i := 0; i < len(want); i += 2 {
			all = append(all, "s4."+want[i], want[i+1])
		}
		wantFiles(t, order, e, append(all, "s4.m", manifestOf(want...), "w3", "")...)
		wantNoMachine(t, e, s, c)
	}
}

// TestOneOfTwoIsPinned: a cut's block that came behind the first step is not.
func TestOneOfTwoIsPinned(t *testing.T) {
	e := openFiles(t, files("b0.0", one(0, 0, 0, 0), "w1", frameOf(1, 1)), quiet)
	n, _ := e.Cut()
	steps(t, e, n, 2, false)
	s, _ := e.Snapshot()
	wantMove(t, e, s, false)
	steps(t, e, n, 2, true)
	compact(t, e)
	both := modelFile(0, 2, []api.Sample{{Series: 1, Time: 0, Value: 0}, {Series: 1, Time: 1, Value: 1}})
	wantFiles(t, "one is doomed, one is removed", e, "b0.0", one(0, 0, 0, 0), "b0.2", both, "w3", "")
	wantMove(t, e, s, false)
	wantResult(t, e, s, 4)
	wantFiles(t, "done", e, "b0.2", both, "s4.b0.0", one(0, 0, 0, 0), "s4.b5.5", one(5, 5, 1, 1), "s4.m", manifestOf("b0.0", one(0, 0, 0, 0), "b5.5", one(5, 5, 1, 1)), "w3", "")
}

// TestLastNumbers: a machine that may begin finds its numbers, whatever the
// others use up.
func TestLastNumbers(t *testing.T) {
	e := openFiles(t, files("w999989", ""), quiet) // the next number is 999991
	put(t, e, api.Sample{Series: 1, Time: 1, Value: 1})
	before := e.Files()
	wantRefused(t, "P6", api.ErrFull)(e.Cut())
	wantRefused(t, "P8", api.ErrFull)(e.Snapshot())
	wantNoMachine(t, e, 2)
	wantFiles(t, "refused", e, flat(before)...)
	wantBegun(t, 2)(e.Compact())
	e = openFiles(t, files("w999988", ""), quiet) // the next number is 999990
	put(t, e, api.Sample{Series: 1, Time: 1, Value: 1})
	wantBegun(t, 2)(e.Cut())
	wantBegun(t, 3)(e.Snapshot())
	wantMove(t, e, 2, false)
	// Both apply: that one is at work is named first.
	wantRefused(t, "P6", api.ErrBusy)(e.Cut())
	wantRefused(t, "P8", api.ErrBusy)(e.Snapshot())
	steps(t, e, 3, 2, false)
	wantResult(t, e, 3, 999991)
	steps(t, e, 2, 3, true)
	wantFiles(t, "done", e, "b999988.999989", one(999988, 999989, 1, 1), "s999991.b999992.999992", one(999992, 999992, 1, 1), "s999991.m", manifestOf("b999992.999992", one(999992, 999992, 1, 1)), "w999990", "")
	wantRefused(t, "P6", api.ErrFull)(e.Cut())
	wantRefused(t, "P8", api.ErrFull)(e.Snapshot())
}
