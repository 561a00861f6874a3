package silo_test

import (
	"math/rand"
	"slices"
	"testing"

	"silo/api"
	"silo/silo"
)

// full: files of all kinds.
func full() []api.File {
	x, y := one(0, 2, 1, 1), one(3, 3, 2, 2)
	m := manifestOf("b0.2", x, "b8.8", y)
	return files("b3.3", y, "b0.2", x, "w4", frameOf(3, 3)+"torn", "s7.m", m, "s7.b0.2", x, "s7.b8.8", y, "t.b", "x", "w1", "")
}

func TestOpenKeepsNothingOfItsFiles(t *testing.T) {
	room := append(full(), api.File{Name: "mark"})
	given := room[:len(room)-1]
	e := openFiles(t, given, quiet)
	if !slices.Equal(room, append(full(), api.File{Name: "mark"})) {
		t.Errorf("P2: Open wrote into %q", room)
	}
	before := e.Files()
	told := answers(t, e)
	for i := range room {
		room[i] = api.File{Name: "w0", Data: "other"}
	}
	wantFiles(t, "behind what was written into the list", e, flat(before)...)
	if got := answers(t, e); got != told {
		t.Errorf("P2: what is told behind it: %s, want %s", got, told)
	}
}

// TestAnswersShareNoMemory: strings too.
func TestAnswersShareNoMemory(t *testing.T) {
	given := full()
	e := openFiles(t, given, quiet)
	texts := func() []string {
		m, err := e.Manifest(7)
		b, err2 := e.Backup(7, "")
		if err != api.OK || err2 != api.OK {
			t.Fatalf("P11, P12: %d, %d", err, err2)
		}
		return append(flat(e.Files()), m, b)
	}
	first := append(flat(given), texts()...)
	for _, text := range texts() {
		for _, other := range first {
			if within(text, other) || within(other, text) {
				t.Errorf("P2: %q lies in the memory of %q", text, other)
			}
		}
	}
}

// TestEnginesOfTheSameFilesShareNothing: what one does the other does not see.
func TestEnginesOfTheSameFilesShareNothing(t *testing.T) {
	given := full()
	e, other := openFiles(t, given, quiet), openFiles(t, given, quiet)
	before, told := other.Files(), answers(t, other)
	put(t, e, api.Sample{Series: 1, Time: 1, Value: 99}, api.Sample{Series: 1, Time: 3, Value: 99})
	cut(t, e)
	s, _ := e.Snapshot()
	wantMove(t, e, s, false)
	compact(t, e)
	steps(t, e, s, 1, false)
	wantFiles(t, "the other one", other, flat(before)...)
	if got := answers(t, other); got != told {
		t.Errorf("P2: the other one tells %s, want %s", got, told)
	}
	wantNoMachine(t, other, 1, 2, s)
	if _, err := other.Manifest(10); err != api.ErrSnapshot {
		t.Errorf("P2: the other one's snapshot: %d", err)
	}
	// It is not busy, and pins nothing.
	compact(t, other)
	wantBegun(t, 2)(other.Snapshot())
	if !slices.ContainsFunc(e.Files(), func(f api.File) bool { return f.Name == "b0.2" }) {
		t.Errorf("P8: what is pinned is gone: %q", e.Files())
	}
}

// TestTheSameCallsTellTheSame: what a call answers hangs on what was called
// ahead of it alone.
func TestTheSameCallsTellTheSame(t *testing.T) {
	for seed := range int64(20) {
		one, two := worked(t, seed), worked(t, seed)
		if !slices.Equal(one.e.Files(), two.e.Files()) || one.told != two.told || !slices.Equal(one.shots, two.shots) {
			t.Fatalf("P2: seed %d: %q and %q", seed, one.e.Files(), two.e.Files())
		}
		for _, s := range one.shots {
			if archive(t, one.e, s.number, "") != archive(t, two.e, s.number, "") {
				t.Fatalf("P2: seed %d: the archives of %d differ", seed, s.number)
			}
		}
	}
}

// TestLookingChangesNothing: Query, Manifest, Backup and Files, right or wrong.
func TestLookingChangesNothing(t *testing.T) {
	for seed := range int64(20) {
		w := worked(t, seed)
		before := w.e.Files()
		for k := -2; k < 30; k++ {
			w.e.Query(k, least, greatest)
			m, _ := w.e.Manifest(k)
			for _, base := range []string{"", m, "nonsense"} {
				w.e.Backup(k, base)
			}
		}
		wantFiles(t, "looked at", w.e, flat(before)...)
		w.run(50)
	}
}

// TestNoCallPanics: at drawn bytes; each answers within the tests' time.
func TestNoCallPanics(t *testing.T) {
	r := rand.New(rand.NewSource(9))
	text := func() string {
		some := []string{"", "silo\n", "b0.0", "w0", "s1.m", "s1.b0.0", " ", "1", "A", "B", "F", "\x00", "\x80", "\xff", noughts, "\n", "0123456789abcdef"}
		out := ""
		for range r.Intn(6) {
			out += some[r.Intn(len(some))]
		}
		if r.Intn(2) == 0 {
			out = sealed(out)
		}
		return out
	}
	for range 20000 {
		silo.Restore([]string{text(), text()}[:r.Intn(3)])
		silo.Samples(text())
		given := []api.File{{Name: text(), Data: text()}, {Name: "s1.m", Data: text()}, {Name: "w0", Data: text()}}
		e, _ := silo.Open(given[:r.Intn(4)], api.Options{Crash: r.Intn(6) - 2, Dirs: r.Intn(4) - 1, Keeps: []int{r.Intn(5) - 1}})
		if e == nil {
			continue
		}
		n, _ := e.Snapshot()
		e.Move(n)
		e.Compact()
		e.Cut()
		e.Move(r.Intn(5))
		e.Move(n)
		e.Move(n)
		e.Manifest(1)
		e.Backup(1, text())
		e.Query(r.Intn(18)-1, anyTime(r), anyTime(r))
		e.Files()
	}
}

func FuzzOpen(f *testing.F) {
	f.Add("b0.0", one(0, 0, 1, 1), "w1", frameOf(1, 1), "s2.m", "silo\n")
	f.Fuzz(func(t *testing.T, a, aData, b, bData, c, cData string) {
		if a == b || b == c || a == c {
			return
		}
		given := files(a, aData, b, bData, c, cData)
		p := openPair(t, rand.New(rand.NewSource(1)), given, quiet)
		p.run(10)
	})
}
