package silo_test

import (
	"testing"

	"silo/api"
)

func TestCutOfAnEmptyHead(t *testing.T) {
	e := open(t, quiet)
	for n := 1; n <= 3; n++ {
		wantBegun(t, n)(e.Cut())
		wantRefused(t, "P6", api.ErrBusy)(e.Cut())
		wantFiles(t, "not moved", e, "w0", "")
		wantMove(t, e, n, true)
		wantFiles(t, "nothing to cut", e, "w0", "")
		wantNoMachine(t, e, n)
	}
	// An Append that took no step has nothing in the head.
	wantBegun(t, 4)(e.Append([]api.Sample{{}}))
	wantBegun(t, 5)(e.Cut())
	wantMove(t, e, 5, true)
	wantMove(t, e, 4, false)
	wantFiles(t, "the log is the same", e, "w0", modelFrame([]api.Sample{{}}))
}

func TestCutIsBusyUntilItIsDone(t *testing.T) {
	e := open(t, quiet)
	put(t, e, api.Sample{})
	wantBegun(t, 2)(e.Cut())
	for step := 1; step <= 4; step++ {
		before := e.Files()
		wantRefused(t, "P6", api.ErrBusy)(e.Cut())
		wantFiles(t, "refused", e, flat(before)...)
		wantMove(t, e, 2, step == 4)
	}
	wantBegun(t, 3)(e.Cut())
}

// flat: name, data, name, data, ..
func flat(l []api.File) []string {
	var out []string
	for _, f := range l {
		out = append(out, f.Name, f.Data)
	}
	return out
}

func TestCutStepByStep(t *testing.T) {
	e := open(t, quiet)
	one := []api.Sample{{Series: 2, Time: 5, Value: 7}, {Series: 2, Time: 4, Value: 7}}
	two := []api.Sample{{Series: 2, Time: 5, Value: 6}, {Series: 0, Time: -3, Value: 1}}
	told := func() {
		t.Helper()
		wantQuery(t, e, 2, least, greatest, api.Point{Time: 4, Value: 7}, api.Point{Time: 5, Value: 6})
		wantQuery(t, e, 0, least, greatest, api.Point{Time: -3, Value: 1})
	}
	put(t, e, one...)
	put(t, e, two...)
	log := modelFrame(one) + modelFrame(two)
	block := modelFile(0, 0, append(one, two...))
	wantBegun(t, 3)(e.Cut())
	wantFiles(t, "begun", e, "w0", log)
	told()
	wantMove(t, e, 3, false)
	wantFiles(t, "step 1", e, "w0", log, "w1", "")
	told()
	wantMove(t, e, 3, false)
	wantFiles(t, "step 2", e, "t.b", block, "w0", log, "w1", "")
	told()
	wantMove(t, e, 3, false)
	wantFiles(t, "step 3", e, "b0.0", block, "w0", log, "w1", "")
	told()
	wantMove(t, e, 3, true)
	wantFiles(t, "step 4", e, "b0.0", block, "w1", "")
	told()
	wantNoMachine(t, e, 3)
}

// TestAppendsBetweenTheSteps: each puts its frame into the log that is written
// to at its first step, and lies above what is frozen and what is in blocks.
func TestAppendsBetweenTheSteps(t *testing.T) {
	e := open(t, quiet)
	batch := func(value uint64) []api.Sample { return []api.Sample{{Series: 7, Time: 0, Value: value}} }
	frame := func(value uint64) string { return modelFrame(batch(value)) }
	told := func(value uint64) {
		t.Helper()
		wantQuery(t, e, 7, least, greatest, api.Point{Time: 0, Value: value})
	}
	block := modelFile(0, 0, batch(1))
	wantBegun(t, 1)(e.Append(batch(1)))
	wantBegun(t, 2)(e.Append(batch(2))) // begun ahead of the cut, not yet moved
	wantMove(t, e, 1, false)
	wantBegun(t, 3)(e.Cut())
	wantMove(t, e, 3, false)
	told(1)
	wantMove(t, e, 2, false)
	told(2)
	wantFiles(t, "step 1", e, "w0", frame(1), "w1", frame(2))
	wantMove(t, e, 3, false)
	told(2)
	put(t, e, batch(4)...)
	told(4)
	wantFiles(t, "step 2", e, "t.b", block, "w0", frame(1), "w1", frame(2)+frame(4))
	wantMove(t, e, 3, false)
	told(4)
	put(t, e, batch(5)...)
	wantFiles(t, "step 3", e, "b0.0", block, "w0", frame(1), "w1", frame(2)+frame(4)+frame(5))
	wantMove(t, e, 3, true)
	told(5)
	rest := []string{"b0.0", block, "w1", frame(2) + frame(4) + frame(5)}
	wantFiles(t, "step 4", e, rest...)
	wantMove(t, e, 1, true) // its log is gone
	wantFiles(t, "a sync of a log that is gone", e, rest...)
	wantMove(t, e, 2, true)
	wantFiles(t, "a sync", e, rest...)
	told(5)
}

// TestSyncBetweenTheSteps: an Append's second step while its log is frozen,
// and its second step behind the next cut.
func TestSyncBetweenTheSteps(t *testing.T) {
	e := open(t, quiet)
	for n := 1; n <= 5; n++ {
		wantBegun(t, n)(e.Append([]api.Sample{{Series: n, Time: n, Value: uint64(n)}}))
		wantMove(t, e, n, false)
	}
	wantBegun(t, 6)(e.Cut())
	for n := 1; n <= 4; n++ {
		wantMove(t, e, n, true)
		wantMove(t, e, 6, n == 4)
	}
	put(t, e, api.Sample{Series: 5, Time: 6, Value: 6})
	cut(t, e)
	wantMove(t, e, 5, true)
	wantNoMachine(t, e, 1, 2, 3, 4, 5, 6)
	wantQuery(t, e, 5, least, greatest, api.Point{Time: 5, Value: 5}, api.Point{Time: 6, Value: 6})
}

func TestCutsOneAfterTheOther(t *testing.T) {
	e := open(t, quiet)
	var blocks []string
	for i := range 4 {
		batch := []api.Sample{{Series: 1, Time: i, Value: uint64(i)}, {Series: 1, Time: 100, Value: uint64(10 + i)}}
		put(t, e, batch...)
		cut(t, e)
		blocks = append(blocks, blockName(i), modelFile(i, i, batch))
		wantFiles(t, "cut", e, append(blocks, "w"+string(rune('1'+i)), "")...)
		wantQuery(t, e, 1, i, 100, api.Point{Time: i, Value: uint64(i)}, api.Point{Time: 100, Value: uint64(10 + i)})
	}
	// A cut of nothing uses no number up.
	wantBegun(t, 9)(e.Cut())
	wantMove(t, e, 9, true)
	wantFiles(t, "nothing to cut", e, append(blocks, "w4", "")...)
	put(t, e, api.Sample{Series: 1, Time: 100, Value: 14})
	wantBegun(t, 11)(e.Cut())
	wantMove(t, e, 11, false)
	put(t, e, api.Sample{Series: 1, Time: 101, Value: 15})
	wantQuery(t, e, 1, 3, 101, api.Point{Time: 3, Value: 3}, api.Point{Time: 100, Value: 14}, api.Point{Time: 101, Value: 15})
}
