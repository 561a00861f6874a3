package silo_test

import (
	"fmt"
	"math/rand"
	"slices"
	"testing"

	"silo/api"
	"silo/silo"
)

// answers: what an engine tells to every Query that may tell something.
func answers(t *testing.T, e *silo.Engine) string {
	t.Helper()
	var all []any
	for series := range api.MaxSeries {
		points, err := e.Query(series, least, greatest)
		if err != api.OK {
			t.Fatalf("P10: Query = %d", err)
		}
		all = append(all, points)
	}
	return fmt.Sprint(all...)
}

// shot: a snapshot that is done, and what was told at its first step.
type shot struct {
	number int
	then   string
}

// job: a machine at work.
type job struct {
	kind, number, taken int
	then                string
}

// worker: an engine with several machines at work, in a drawn order.
type worker struct {
	t     *testing.T
	r     *rand.Rand
	e     *silo.Engine
	jobs  []job
	shots []shot // in the order in which they were done
	told  string // by all queries, now
}

func (w *worker) begin(kind int, number int, err api.Errno) {
	if err == api.OK {
		w.jobs = append(w.jobs, job{kind: kind, number: number})
	} else if err != api.ErrBusy {
		w.t.Fatalf("machine of kind %d: %d", kind, err)
	}
}

func (w *worker) beginAny() {
	kind := w.r.Intn(5)
	switch kind {
	case 0:
		n, err := w.e.Cut()
		w.begin(1, n, err)
	case 1:
		n, err := w.e.Compact()
		w.begin(2, n, err)
	case 2:
		n, err := w.e.Snapshot()
		w.begin(3, n, err)
	default:
		var batch []api.Sample
		for range 1 + w.r.Intn(4) {
			batch = append(batch, api.Sample{Series: w.r.Intn(3), Time: w.r.Intn(8), Value: w.r.Uint64() % 1000})
		}
		n, err := w.e.Append(batch)
		w.begin(0, n, err)
	}
}

// move: a step of one of the machines; P16 of it.
func (w *worker) move() {
	i := w.r.Intn(len(w.jobs))
	j := &w.jobs[i]
	j.taken++
	if j.taken == 1 {
		j.then = w.told
	}
	done, result, err := w.e.Move(j.number)
	if err != api.OK || (result != 0) != (done && j.kind == 3) {
		w.t.Fatalf("P9: Move = %t, %d, %d", done, result, err)
	}
	told := answers(w.t, w.e)
	if told != w.told && (j.kind != 0 || j.taken == 2) {
		w.t.Fatalf("P16: step %d of kind %d: %s, want %s", j.taken, j.kind, told, w.told)
	}
	w.told = told
	if !done {
		return
	}
	if j.kind == 3 {
		w.shots = append(w.shots, shot{result, j.then})
	}
	w.jobs = slices.Delete(w.jobs, i, i+1)
}

func (w *worker) run(turns int) {
	for range turns {
		if len(w.jobs) == 0 || len(w.jobs) < 6 && w.r.Intn(3) == 0 {
			w.beginAny()
		} else {
			w.move()
		}
	}
}

func worked(t *testing.T, seed int64) *worker {
	t.Helper()
	w := &worker{t: t, r: rand.New(rand.NewSource(seed)), e: open(t, quiet)}
	w.told = answers(t, w.e)
	w.run(150 + w.r.Intn(150))
	return w
}

func archive(t *testing.T, e *silo.Engine, snapshot int, base string) string {
	t.Helper()
	text, err := e.Backup(snapshot, base)
	if err != api.OK {
		t.Fatalf("P12: Backup(%d, %q): %d", snapshot, base, err)
	}
	return text
}

func restored(t *testing.T, archives ...string) []api.File {
	t.Helper()
	out, err := silo.Restore(archives)
	if err != api.OK {
		t.Fatalf("P13: Restore: %d", err)
	}
	return out
}

// TestWhatIsToldStays (P16), and every snapshot brings back what was told when
// it took its first step (P17).
func TestWhatIsToldStays(t *testing.T) {
	count := 0
	for seed := range int64(120) {
		w := worked(t, seed)
		for _, s := range w.shots {
			back := openFiles(t, restored(t, archive(t, w.e, s.number, "")), quiet)
			if got := answers(t, back); got != s.then {
				t.Fatalf("P17: seed %d, snapshot %d: %s, want %s", seed, s.number, got, s.then)
			}
			count++
		}
	}
	if count < 500 {
		t.Errorf("%d snapshots are too few", count)
	}
}

// TestWhatIsRestoredWorksOn: snapshots of an engine of restored files.
func TestWhatIsRestoredWorksOn(t *testing.T) {
	for seed := range int64(40) {
		w := worked(t, seed)
		for range 3 {
			if len(w.shots) == 0 {
				break
			}
			last := w.shots[len(w.shots)-1]
			w.e = openFiles(t, restored(t, archive(t, w.e, last.number, "")), quiet)
			w.jobs, w.shots, w.told = nil, nil, answers(t, w.e)
			w.run(100)
			for _, s := range w.shots {
				if got := answers(t, openFiles(t, restored(t, archive(t, w.e, s.number, "")), quiet)); got != s.then {
					t.Fatalf("P17: seed %d: %s, want %s", seed, got, s.then)
				}
			}
		}
	}
}

// TestChainsOfBackups (P18).
func TestChainsOfBackups(t *testing.T) {
	long := 0
	for seed := range int64(120) {
		w := worked(t, seed)
		var chain, manifests []string
		base := ""
		for _, s := range w.shots {
			if w.r.Intn(4) == 0 {
				continue // any of them, in their order
			}
			chain = append(chain, archive(t, w.e, s.number, base))
			base, _ = w.e.Manifest(s.number)
			manifests = append(manifests, base)
			whole := restored(t, archive(t, w.e, s.number, ""))
			if got := restored(t, chain...); !slices.Equal(got, whole) {
				t.Fatalf("P18: seed %d, snapshot %d: %q, want %q", seed, s.number, got, whole)
			}
			if len(chain) > 2 {
				long++
				wantBroken(t, w.r, chain, manifests)
			}
		}
	}
	if long < 200 {
		t.Errorf("%d chains are too few", long)
	}
}

// wantBroken: without one in the middle, or in another order, it is no chain,
// where the manifests' hashes differ.
func wantBroken(t *testing.T, r *rand.Rand, chain, manifests []string) {
	t.Helper()
	gone := 1 + r.Intn(len(chain)-2)
	if manifests[gone-1] != manifests[gone] {
		wantNoChain(t, "P18: one left out", slices.Delete(slices.Clone(chain), gone, gone+1)...)
	}
	bases := append([]string{""}, manifests...)
	ahead, fits := "", true
	var other []string
	for _, k := range r.Perm(len(chain)) {
		other = append(other, chain[k])
		fits = fits && bases[k] == ahead
		ahead = manifests[k]
	}
	if !fits {
		wantNoChain(t, "P18: another order", other...)
	}
}
