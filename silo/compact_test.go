package silo_test

import (
	"slices"
	"testing"

	"silo/api"
	"silo/silo"
)

// steps: a machine takes some steps, the last of which is its last one, if done.
func steps(t *testing.T, e *silo.Engine, machine, count int, done bool) {
	t.Helper()
	for k := 1; k <= count; k++ {
		wantMove(t, e, machine, done && k == count)
	}
}

// compact: a Compact from its beginning to its end.
func compact(t *testing.T, e *silo.Engine) {
	t.Helper()
	n, err := e.Compact()
	if err != api.OK {
		t.Fatalf("P7: Compact: %d", err)
	}
	steps(t, e, n, 3, true)
}

// cutOf: a batch put and cut.
func cutOf(t *testing.T, e *silo.Engine, batch ...api.Sample) {
	t.Helper()
	put(t, e, batch...)
	cut(t, e)
}

func TestCompactOfFewerThanTwo(t *testing.T) {
	e := open(t, quiet)
	wantBegun(t, 1)(e.Compact())
	wantMove(t, e, 1, true)
	wantFiles(t, "of no block", e, "w0", "")
	cutOf(t, e, api.Sample{Series: 1, Time: 1, Value: 1})
	wantBegun(t, 4)(e.Compact())
	wantFiles(t, "not moved", e, "b0.0", one(0, 0, 1, 1), "w1", "")
	wantMove(t, e, 4, true)
	wantFiles(t, "of one block", e, "b0.0", one(0, 0, 1, 1), "w1", "")
	wantNoMachine(t, e, 1, 4)
	// What is in the head or frozen is no block.
	put(t, e, api.Sample{Series: 1, Time: 2, Value: 2})
	n, _ := e.Cut()
	steps(t, e, n, 2, false)
	put(t, e, api.Sample{Series: 1, Time: 3, Value: 3})
	before := e.Files()
	wantBegun(t, 8)(e.Compact())
	wantMove(t, e, 8, true)
	wantFiles(t, "one block, one frozen", e, flat(before)...)
}

func TestCompactIsBusyUntilItIsDone(t *testing.T) {
	e := open(t, quiet)
	cutOf(t, e, api.Sample{Series: 1})
	cutOf(t, e, api.Sample{Series: 1})
	wantBegun(t, 5)(e.Compact())
	for step := 1; step <= 3; step++ {
		before := e.Files()
		wantRefused(t, "P7", api.ErrBusy)(e.Compact())
		wantFiles(t, "refused", e, flat(before)...)
		wantMove(t, e, 5, step == 3)
	}
	wantBegun(t, 6)(e.Compact())
	wantRefused(t, "P7", api.ErrBusy)(e.Compact())
	wantMove(t, e, 6, true)
	wantBegun(t, 7)(e.Compact())
}

func TestCompactStepByStep(t *testing.T) {
	e := open(t, quiet)
	first := []api.Sample{{Series: 1, Time: 1, Value: 1}, {Series: 1, Time: 2, Value: 2}, {Series: 4, Time: least, Value: 4}}
	second := []api.Sample{{Series: 1, Time: 2, Value: 3}, {Series: 0, Time: 9, Value: 9}, {Series: 4, Time: greatest, Value: 5}}
	third := []api.Sample{{Series: 1, Time: 1, Value: 7}}
	for _, batch := range [][]api.Sample{first, second, third} {
		cutOf(t, e, batch...)
	}
	x, y, z := modelFile(0, 0, first), modelFile(1, 1, second), modelFile(2, 2, third)
	// Where both have one, it is the second one's.
	xy := modelFile(0, 1, []api.Sample{{Series: 0, Time: 9, Value: 9}, {Series: 1, Time: 1, Value: 1}, {Series: 1, Time: 2, Value: 3}, {Series: 4, Time: least, Value: 4}, {Series: 4, Time: greatest, Value: 5}})
	told := func() {
		t.Helper()
		wantQuery(t, e, 0, least, greatest, api.Point{Time: 9, Value: 9})
		wantQuery(t, e, 1, least, greatest, api.Point{Time: 1, Value: 7}, api.Point{Time: 2, Value: 3})
		wantQuery(t, e, 4, least, greatest, api.Point{Time: least, Value: 4}, api.Point{Time: greatest, Value: 5})
	}
	n, _ := e.Compact()
	wantFiles(t, "begun", e, "b0.0", x, "b1.1", y, "b2.2", z, "w3", "")
	told()
	wantMove(t, e, n, false)
	wantFiles(t, "step 1", e, "b0.0", x, "b1.1", y, "b2.2", z, "t.c", xy, "w3", "")
	told()
	wantMove(t, e, n, false)
	wantFiles(t, "step 2", e, "b0.0", x, "b0.1", xy, "b1.1", y, "b2.2", z, "w3", "")
	told()
	wantMove(t, e, n, true)
	wantFiles(t, "step 3", e, "b0.1", xy, "b2.2", z, "w3", "")
	told()
	wantNoMachine(t, e, n)
	compact(t, e)
	wantFiles(t, "once more", e, "b0.2", modelFile(0, 2, slices.Concat(first, second, third)), "w3", "")
	told()
}

// TestCompactTakesTheTwoLowest: as they are at its first step, by lo, not by
// name.
func TestCompactTakesTheTwoLowest(t *testing.T) {
	e := openFiles(t, files("b10.11", one(10, 11, 1, 10), "b9.9", one(9, 9, 1, 9), "b20.20", one(20, 20, 1, 20)), quiet)
	compact(t, e)
	wantFiles(t, "compacted", e, "b20.20", one(20, 20, 1, 20), "b9.11", one(9, 11, 1, 10), "w21", "")
	put(t, e, api.Sample{Series: 1, Time: 1, Value: 21})
	c, _ := e.Compact()
	n, _ := e.Cut()
	steps(t, e, n, 4, true) // between begin and the first step
	wantMove(t, e, c, false)
	wantFiles(t, "step 1", e, "b20.20", one(20, 20, 1, 20), "b21.21", one(21, 21, 1, 21), "b9.11", one(9, 11, 1, 10), "t.c", one(9, 20, 1, 20), "w22", "")
	steps(t, e, c, 2, true)
	wantFiles(t, "done", e, "b21.21", one(21, 21, 1, 21), "b9.20", one(9, 20, 1, 20), "w22", "")
}

// TestACutBetweenTheStepsOfACompaction, and the other way round.
func TestACutBetweenTheStepsOfACompaction(t *testing.T) {
	e := open(t, quiet)
	for i := range 2 {
		cutOf(t, e, api.Sample{Series: 1, Time: 1, Value: uint64(i)})
	}
	put(t, e, api.Sample{Series: 1, Time: 1, Value: 2})
	told := func() {
		t.Helper()
		wantQuery(t, e, 1, least, greatest, api.Point{Time: 1, Value: 2})
	}
	c, _ := e.Compact()
	n, _ := e.Cut()
	for _, machine := range []int{n, c, n, c, n, c, n} {
		_, _, err := e.Move(machine)
		if err != api.OK {
			t.Fatalf("P9: Move = %d", err)
		}
		told()
	}
	wantNoMachine(t, e, c, n)
	wantFiles(t, "both done", e, "b0.1", one(0, 1, 1, 1), "b2.2", one(2, 2, 1, 2), "w3", "")
}

func TestCompactUsesNoNumber(t *testing.T) {
	e := openFiles(t, files("b0.0", none(0, 0), "b1.1", none(1, 1), "w999998", ""), quiet)
	wantRefused(t, "P6", api.ErrFull)(e.Cut())
	wantBegun(t, 1)(e.Compact())
	steps(t, e, 1, 3, true)
	wantFiles(t, "compacted", e, "b0.1", none(0, 1), "w999998", "", "w999999", "")
}
