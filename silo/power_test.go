package silo_test

import (
	"slices"
	"testing"

	"silo/api"
	"silo/silo"
)

// TestPowerIsLostAgainAndAgain: P19 over drawn orders of calls and moves. Power
// is lost at work, in the next Open, and in those behind that.
func TestPowerIsLostAgainAndAgain(t *testing.T) {
	t.Parallel()
	var seen tally
	for seed := range int64(200) {
		w := newWorker(t, seed)
		w.seen = &seen
		var left []api.File
		for range 4 {
			left = w.live(left, anyLoss(w.r, 90), 80)
			for range 3 {
				left = w.live(left, anyLoss(w.r, 5), 20)
			}
		}
		w.live(left, quiet, 60)
	}
	few := min(slices.Min(seen.opens[1:]), slices.Min(seen.steps[:]), seen.gone, seen.beyond, seen.done, seen.halves)
	if few < 10 {
		t.Errorf("what was drawn is too much alike: %+v", seen)
	}
}

// reopen: Opens on end, in each of which power is lost ahead of each of its
// operations; what answers OK is whole.
func (w *worker) reopen(given []api.File, o api.Options, times int) {
	w.t.Helper()
	w.wantWhole(openFiles(w.t, given, quiet))
	if times == 0 {
		return
	}
	for o.Crash = 0; ; o.Crash++ {
		e, err := silo.Open(given, o)
		if err == api.OK {
			w.wantWhole(e)
			return
		}
		if e == nil || err != api.ErrLost {
			w.t.Fatalf("P19: Open(%q, %v) = %v, %d", given, o, e, err)
		}
		w.reopen(e.Files(), o, times-1)
	}
}

// TestPowerIsLostEverywhere: ahead of each operation of an engine that works,
// then of the next Open, and of the one behind that (P19).
func TestPowerIsLostEverywhere(t *testing.T) {
	t.Parallel()
	for seed := range int64(6) {
		for crash, reached := 0, true; reached; crash++ {
			for _, o := range []api.Options{{Dirs: 0}, {Dirs: 1, Keeps: []int{3, 0, 20}}, {Dirs: greatest, Keeps: []int{greatest}}} {
				o.Crash = crash
				w := newWorker(t, seed)
				left := w.live(nil, o, 60)
				reached = w.lost
				w.reopen(left, o, 2)
			}
		}
	}
}

// TestPowerIsLostWhereNumbersRunOut: an Open may answer ErrFull there, but what
// answers OK is whole, and nothing is ErrCorrupt (P19).
func TestPowerIsLostWhereNumbersRunOut(t *testing.T) {
	t.Parallel()
	full := 0
	for seed := range int64(60) {
		w := newWorker(t, seed)
		w.nearEnd = true
		left := files("w999969", "")
		for range 40 {
			left = w.live(left, anyLoss(w.r, 60), 60)
		}
		if e, err := silo.Open(left, quiet); e != nil && err == api.ErrFull {
			full++
		}
	}
	if full < 20 {
		t.Errorf("numbers ran out %d times only", full)
	}
}

// TestBatchesAreLeftByTheirFirstSteps: the second one is done, so the one that
// took its first step ahead of it is left too; of the third one all or nothing.
func TestBatchesAreLeftByTheirFirstSteps(t *testing.T) {
	third := frameOf(3, 3)
	for keep := range len(third) + 2 {
		// CREATE, SYNCDIR; APPEND, APPEND, SYNC, APPEND; SYNC: 0 to 6.
		e := open(t, api.Options{Crash: 6, Keeps: []int{keep}})
		for i := range 3 {
			wantBegun(t, i+1)(e.Append([]api.Sample{{Series: 1, Time: i + 1, Value: uint64(i + 1)}}))
		}
		wantMove(t, e, 2, false)
		wantMove(t, e, 1, false)
		wantMove(t, e, 1, true)
		wantMove(t, e, 3, false)
		if done, _, err := e.Move(2); done || err != api.ErrLost {
			t.Fatalf("P15: Move = %t, %d", done, err)
		}
		wantFiles(t, "lost", e, "w0", frameOf(2, 2)+frameOf(1, 1)+third[:min(keep, len(third))])
		want := []api.Point{{Time: 1, Value: 1}, {Time: 2, Value: 2}}
		if keep >= len(third) {
			want = append(want, api.Point{Time: 3, Value: 3})
		}
		// What an Open has that answered OK is there for good. One that is torn
		// has CUTOFF and SYNC ahead of CREATE and SYNCDIR.
		opened := 2
		if 0 < keep && keep < len(third) {
			opened = 4
		}
		left := e.Files()
		for _, crash := range []int{opened, 3} {
			next := openFiles(t, left, api.Options{Crash: crash})
			wantQuery(t, next, 1, least, greatest, want...)
			next.Append([]api.Sample{{Series: 1, Time: 9, Value: 9}})
			next.Move(1)
			next.Move(1)
			left = next.Files()
		}
		wantQuery(t, openFiles(t, left, quiet), 1, least, greatest, want...)
	}
}

// TestSnapshotsAreLeft: power is lost ahead of every operation of what comes
// behind a snapshot that is done: its links, not the engine's files, have it.
func TestSnapshotsAreLeft(t *testing.T) {
	given := files("b0.0", one(0, 0, 1, 1), "b1.1", one(1, 1, 2, 2), "w2", frameOf(3, 3))
	for crash, lost := 9, true; lost; crash++ {
		// Open: 0, 1; LINK, LINK; CREATE, APPEND, SYNC: 2 to 6; CREATE, APPEND,
		// SYNC, RENAME, SYNCDIR: 7 to 11.
		e := openFiles(t, given, api.Options{Crash: crash, Dirs: crash % 3, Keeps: []int{crash % 5}})
		s, _ := e.Snapshot()
		done, number := false, 0
		for range 3 {
			done, number, _ = e.Move(s)
		}
		if done != (crash >= 12) {
			t.Fatalf("P8: crash %d: done %t", crash, done)
		}
		manifest, _ := e.Manifest(number)
		whole, _ := e.Backup(number, "")
		lost = !compactAndCut(e)
		next := openFiles(t, e.Files(), quiet)
		wantQuery(t, next, 1, least, greatest, api.Point{Time: 1, Value: 1}, api.Point{Time: 2, Value: 2}, api.Point{Time: 3, Value: 3})
		if !done {
			continue
		}
		if got, err := next.Manifest(number); got != manifest || err != api.OK {
			t.Errorf("P19: crash %d: Manifest = %q, %d, want %q", crash, got, err, manifest)
		}
		if got, err := next.Backup(number, ""); got != whole || err != api.OK {
			t.Errorf("P19: crash %d: Backup = %q, %d, want %q", crash, got, err, whole)
		}
	}
}

// compactAndCut: false, if power was lost.
func compactAndCut(e *silo.Engine) bool {
	for _, begin := range []func() (int, api.Errno){e.Compact, e.Cut, e.Compact} {
		n, err := begin()
		for done := false; !done; {
			if err == api.ErrLost {
				return false
			}
			done, _, err = e.Move(n)
		}
	}
	return true
}
