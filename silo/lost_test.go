package silo_test

import (
	"math/rand"
	"slices"
	"strings"
	"testing"

	"silo/api"
	"silo/silo"
)

// anyLoss: power is lost ahead of one of so many operations, or of none that
// is come to.
func anyLoss(r *rand.Rand, most int) api.Options {
	o := api.Options{Crash: r.Intn(most), Dirs: r.Intn(7), Keeps: anyKeeps(r)}
	switch r.Intn(12) {
	case 0:
		o.Dirs = greatest
	case 1:
		o.Crash = greatest
	}
	return o
}

// anyKeeps: none, fewer than there are names, or more.
func anyKeeps(r *rand.Rand) []int {
	var keeps []int
	size := r.Intn(4)
	if r.Intn(6) == 0 {
		size = 40
	}
	for range size {
		keeps = append(keeps, r.Intn(40))
		if r.Intn(6) == 0 {
			keeps[0] = greatest
		}
	}
	return keeps
}

// losses: what may be left when power is lost ahead of an operation: none of
// the steps since the last SYNCDIR, some, all, or more than there are; for
// each of them some numbers of bytes.
func losses(p *pair, crash int, keeps ...[]int) []api.Options {
	steps := len(diskOf(p.model.given, p.model.ops[:crash]).steps)
	var out []api.Options
	for dirs := range steps + 2 {
		for _, k := range keeps {
			out = append(out, api.Options{Crash: crash, Dirs: dirs, Keeps: k})
		}
	}
	return append(out, api.Options{Crash: crash, Dirs: greatest, Keeps: keeps[0]})
}

// wantSilence: the engine of a pair has lost power: every call but Files, right
// or wrong, answers so, and Files tells what was left then, whatever is called.
func (p *pair) wantSilence(why string) {
	p.t.Helper()
	if !p.lost() {
		p.t.Fatalf("%s: power is not lost", why)
	}
	p.checkFiles()
	wantFault(p.t, why, p.engine, api.ErrLost)
	for machine := range p.model.work {
		if done, result, err := p.engine.Move(machine); done || result != 0 || err != api.ErrLost {
			p.t.Errorf("P15: %s: Move(%d) = %t, %d, %d", why, machine, done, result, err)
		}
	}
	for _, snapshot := range p.model.snapshots() {
		if text, err := p.engine.Manifest(snapshot); text != "" || err != api.ErrLost {
			p.t.Errorf("P15: %s: Manifest(%d) = %q, %d", why, snapshot, text, err)
		}
		if text, err := p.engine.Backup(snapshot, ""); text != "" || err != api.ErrLost {
			p.t.Errorf("P15: %s: Backup(%d) = %q, %d", why, snapshot, text, err)
		}
	}
	clear(p.engine.Files())
	p.checkFiles()
}

// TestPowerIsLostAheadOfEveryOperation: of drawn orders of calls.
func TestPowerIsLostAheadOfEveryOperation(t *testing.T) {
	t.Parallel()
	const calls = 60
	for seed := range int64(8) {
		r := rand.New(rand.NewSource(seed))
		var given []api.File
		if seed%2 == 1 {
			given = survived(t, seed).e.Files()
		}
		again := func(o api.Options) *pair {
			p := openPair(t, rand.New(rand.NewSource(seed)), given, o)
			p.run(calls)
			return p
		}
		whole := again(quiet)
		for crash := range whole.model.ops {
			for _, o := range losses(whole, crash, anyKeeps(r)) {
				again(o).wantSilence("lost")
			}
		}
		never := again(api.Options{Crash: len(whole.model.ops)})
		if !slices.Equal(never.engine.Files(), whole.engine.Files()) {
			t.Errorf("P14: seed %d: %q, want %q", seed, never.engine.Files(), whole.engine.Files())
		}
	}
}

// TestPowerIsLostAnywhere: what Files tells then (P14), and that nothing else
// is told any more.
func TestPowerIsLostAnywhere(t *testing.T) {
	t.Parallel()
	for seed := range int64(1000) {
		r := rand.New(rand.NewSource(seed))
		p := openPair(t, r, nil, anyLoss(r, 100))
		p.run(150)
		// An engine of what was left is as the document says, too.
		again := openPair(t, r, p.engine.Files(), anyLoss(r, 40))
		again.run(40)
	}
}

// TestEveryCallInWhichPowerIsLost: Open, and each step that has operations, at
// the first and at the last of them (P15).
func TestEveryCallInWhichPowerIsLost(t *testing.T) {
	given := files("b0.0", one(0, 0, 0, 0), "b1.1", one(1, 1, 1, 1), "s2.m", "silo\n", "w3", frameOf(1, 3)+"torn", "x", "")
	// Open: CUTOFF, SYNC; REMOVE, SYNCDIR; CREATE, SYNCDIR: 0 to 5.
	const calls = "a11s222k333c4444"
	for i, c := range []struct {
		first, last int
		played      string
	}{
		{0, 5, ""},
		{6, 6, "a1"}, {7, 7, "a11"},
		{8, 12, "a11s22"}, {13, 17, "a11s222"},
		{18, 20, "a11s222k3"}, {21, 22, "a11s222k33"}, {23, 25, "a11s222k333"},
		{26, 28, "a11s222k333c4"}, {29, 31, "a11s222k333c44"}, {32, 33, "a11s222k333c444"}, {34, 36, calls},
	} {
		for crash := c.first; crash <= c.last; crash++ {
			p := openPair(t, nil, given, api.Options{Crash: crash, Dirs: i % 3, Keeps: []int{i}})
			if c.played == "" {
				p.wantSilence("lost in Open")
				continue
			}
			p.play(c.played[:len(c.played)-1])
			if p.lost() {
				t.Fatalf("operation %d is lost too early", crash)
			}
			p.play(c.played[len(c.played)-1:])
			p.wantSilence("lost behind " + c.played)
			p.play(strings.TrimPrefix(calls, c.played))
		}
	}
	p := openPair(t, nil, given, api.Options{Crash: 37})
	p.play(calls)
	if p.lost() {
		t.Errorf("there is an operation 37: %v", p.model.ops)
	}
}

// TestALostEngineAnswersNothing: from the first operations on.
func TestALostEngineAnswersNothing(t *testing.T) {
	for crash, want := range [][]api.File{nil, files("w0", ""), files("w0", ""), files("w0", "F\x03")} {
		e, err := silo.Open(nil, api.Options{Crash: crash, Dirs: 1, Keeps: []int{2}})
		if e == nil || (err == api.ErrLost) != (crash < 2) {
			t.Fatalf("P15: Open, crash %d = %v, %d", crash, e, err)
		}
		if crash >= 2 {
			wantBegun(t, 1)(e.Append([]api.Sample{{}}))
			if crash == 3 {
				wantMove(t, e, 1, false)
			}
			if done, result, err := e.Move(1); done || result != 0 || err != api.ErrLost {
				t.Errorf("P15: Move = %t, %d, %d", done, result, err)
			}
		}
		wantFault(t, "lost", e, api.ErrLost)
		wantFiles(t, "lost", e, flat(want)...)
	}
}

// TestFilesBehindALoss: however often it is asked, whatever is called between,
// and whatever is done to what it answered (P14).
func TestFilesBehindALoss(t *testing.T) {
	for seed := range int64(100) {
		r := rand.New(rand.NewSource(seed))
		p := openPair(t, r, nil, api.Options{Crash: r.Intn(40), Dirs: r.Intn(4), Keeps: anyKeeps(r)})
		for !p.lost() {
			p.run(1)
		}
		want := left(nil, p.model.ops[:p.options.Crash], p.options)
		for range 5 {
			got := p.engine.Files()
			if !slices.Equal(got, want) {
				t.Fatalf("P14: seed %d: %q, want %q", seed, got, want)
			}
			clear(got[:cap(got)])
			wantFault(t, "lost", p.engine, api.ErrLost)
		}
	}
}

// TestWhatIsNoEnginesCallGoesOn: Block, Samples and Restore (P15).
func TestWhatIsNoEnginesCallGoesOn(t *testing.T) {
	w := worked(t, 3)
	last := w.shots[len(w.shots)-1]
	lost, err := silo.Open(w.e.Files(), api.Options{Crash: 0})
	if lost == nil || err != api.ErrLost {
		t.Fatalf("P15: Open = %v, %d", lost, err)
	}
	corrupt, err := silo.Open(files("b0.0", "x"), quiet)
	if corrupt == nil || err != api.ErrCorrupt {
		t.Fatalf("P4: Open = %v, %d", corrupt, err)
	}
	if got := w.broughtBack(last.archive); got != last.then {
		t.Errorf("P15: Restore: %s, want %s", got, last.then)
	}
	wantNoChain(t, "P15: Restore")
	x := api.Sample{Series: 1, Time: 2, Value: 3}
	file, err := silo.Block(0, 3, []api.Sample{x})
	if file != modelFile(0, 3, []api.Sample{x}) || err != api.OK {
		t.Errorf("P15: Block = %q, %d", file, err)
	}
	if lo, hi, list, err := silo.Samples(file); lo != 0 || hi != 3 || !slices.Equal(list, []api.Sample{x}) || err != api.OK {
		t.Errorf("P15: Samples = %d, %d, %v, %d", lo, hi, list, err)
	}
	wantFault(t, "lost", lost, api.ErrLost)
	wantFault(t, "corrupt", corrupt, api.ErrCorrupt)
}
