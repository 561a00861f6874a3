package silo_test

import (
	"math/rand"
	"slices"
	"testing"
)

// workers: of engines that never lost power, and of such that were opened of
// what a loss of power left.
func workers(t *testing.T, each func(w *worker)) {
	for seed := range int64(120) {
		each(worked(t, seed))
		each(survived(t, seed))
	}
}

// TestWhatIsToldStays (P16), and every snapshot brings back what was told when
// it took its first step (P17), however much was done since.
func TestWhatIsToldStays(t *testing.T) {
	t.Parallel()
	count := 0
	workers(t, func(w *worker) {
		for _, s := range w.shots {
			if got := w.broughtBack(archive(t, w.e, s.number, "")); got != s.then {
				t.Fatalf("P17: snapshot %d: %s, want %s", s.number, got, s.then)
			}
			count++
		}
	})
	if count < 1000 {
		t.Errorf("%d snapshots are too few", count)
	}
}

// TestWhatIsRestoredWorksOn: snapshots of an engine of restored files.
func TestWhatIsRestoredWorksOn(t *testing.T) {
	t.Parallel()
	for seed := range int64(40) {
		w := worked(t, seed)
		for range 3 {
			if len(w.shots) == 0 {
				break
			}
			last := w.shots[len(w.shots)-1]
			w.e = openFiles(t, restored(t, last.archive), quiet)
			w.jobs, w.shots, w.told = nil, nil, answers(t, w.e)
			w.run(100)
			for _, s := range w.shots {
				if got := w.broughtBack(archive(t, w.e, s.number, "")); got != s.then {
					t.Fatalf("P17: seed %d: %s, want %s", seed, got, s.then)
				}
			}
		}
	}
}

// TestChainsOfBackups (P18).
func TestChainsOfBackups(t *testing.T) {
	t.Parallel()
	long := 0
	workers(t, func(w *worker) {
		var chain, manifests []string
		base := ""
		for _, s := range w.shots {
			if w.r.Intn(4) == 0 {
				continue // any of them, in their order
			}
			chain = append(chain, archive(t, w.e, s.number, base))
			base, _ = w.e.Manifest(s.number)
			manifests = append(manifests, base)
			whole := restored(t, archive(t, w.e, s.number, ""))
			if got := restored(t, chain...); !slices.Equal(got, whole) {
				t.Fatalf("P18: snapshot %d: %q, want %q", s.number, got, whole)
			}
			if len(chain) > 2 {
				long++
				wantBroken(t, w.r, chain, manifests)
			}
		}
	})
	if long < 400 {
		t.Errorf("%d chains are too few", long)
	}
}

// wantBroken: without one in the middle, or in another order, it is no chain,
// where the manifests' hashes differ.
func wantBroken(t *testing.T, r *rand.Rand, chain, manifests []string) {
	t.Helper()
	gone := 1 + r.Intn(len(chain)-2)
	if manifests[gone-1] != manifests[gone] {
		wantNoChain(t, "P18: one left out", slices.Delete(slices.Clone(chain), gone, gone+1)...)
	}
	bases := append([]string{""}, manifests...)
	ahead, fits := "", true
	var other []string
	for _, k := range r.Perm(len(chain)) {
		other = append(other, chain[k])
		fits = fits && bases[k] == ahead
		ahead = manifests[k]
	}
	if !fits {
		wantNoChain(t, "P18: another order", other...)
	}
}
