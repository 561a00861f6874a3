package silo_test

import (
	"fmt"
	"math/rand"
	"slices"
	"testing"

	"silo/api"
	"silo/silo"
)

// answers: what an engine tells to every Query that may tell something.
func answers(t *testing.T, e *silo.Engine) string {
	t.Helper()
	var all []any
	for series := range api.MaxSeries {
		points, err := e.Query(series, least, greatest)
		if err != api.OK {
			t.Fatalf("P10: Query = %d", err)
		}
		all = append(all, points)
	}
	return fmt.Sprint(all...)
}

// answersOf: what is to be told behind batches.
func answersOf(batches [][]api.Sample) string {
	var points [api.MaxSeries][]api.Point
	for _, x := range laid(slices.Concat(batches...)) {
		points[x.Series] = append(points[x.Series], api.Point{Time: x.Time, Value: x.Value})
	}
	var all []any
	for _, list := range points {
		all = append(all, list)
	}
	return fmt.Sprint(all...)
}

func archive(t *testing.T, e *silo.Engine, snapshot int, base string) string {
	t.Helper()
	text, err := e.Backup(snapshot, base)
	if err != api.OK {
		t.Fatalf("P12: Backup(%d, %q): %d", snapshot, base, err)
	}
	return text
}

func restored(t *testing.T, archives ...string) []api.File {
	t.Helper()
	out, err := silo.Restore(archives)
	if err != api.OK {
		t.Fatalf("P13: Restore: %d", err)
	}
	return out
}

// shot: a snapshot that is done, and what was told at its first step.
type shot struct {
	number            int
	then              string
	manifest, archive string
}

// The kinds of a worker's machines.
const (
	appends = iota
	cuts
	compacts
	snaps
	kinds
)

// job: a machine at work.
type job struct {
	kind, number, taken int
	then                string // what was told ahead of its first step
	batch               []api.Sample
	place               int // of the batch, among all
}

// tally: what came about with drawn workers, so that they are of use.
type tally struct {
	opens        [4]int     // lost; in how many on end, from 1 on
	steps        [kinds]int // lost in a step of a kind
	gone, beyond int        // batches that are gone; that are left, but need not be
	done, halves int        // snapshots that are done; that are there, but not done
}

// worker: an engine with several machines at work, in a drawn order; and when
// power is lost, the next one, of what is left.
type worker struct {
	t       *testing.T
	r       *rand.Rand
	e       *silo.Engine
	jobs    []job
	told    string // by all queries, now
	lost    bool
	nearEnd bool // numbers may run out

	// Of all engines together:
	shots   []shot         // in the order in which they were done
	batches [][]api.Sample // by the order of their first steps
	sure    int            // so many of them must outlive every loss
	drawn   uint64         // how many batches were drawn
	halves  []string       // what snapshots would tell that are there or not
	onEnd   int            // Opens in which power was lost, up to now
	seen    *tally
}

func newWorker(t *testing.T, seed int64) *worker {
	return &worker{t: t, r: rand.New(rand.NewSource(seed)), seen: &tally{}}
}

// markSeries has one sample in each batch, by which the batch is known.
const markSeries = 15

func (w *worker) anyBatch() []api.Sample {
	w.drawn++
	batch := []api.Sample{{Series: markSeries, Value: w.drawn}}
	for range w.r.Intn(5) {
		batch = append(batch, api.Sample{Series: w.r.Intn(3), Time: w.r.Intn(8), Value: w.r.Uint64() % 1000})
	}
	w.r.Shuffle(len(batch), func(i, k int) { batch[i], batch[k] = batch[k], batch[i] })
	return batch
}

// behind: by how many batches an engine has what it tells.
func (w *worker) behind(e *silo.Engine) int {
	w.t.Helper()
	points, err := e.Query(markSeries, least, greatest)
	if err != api.OK || len(points) > 1 {
		w.t.Fatalf("P10: Query = %v, %d", points, err)
	}
	if len(points) == 0 {
		return 0
	}
	mark := api.Sample{Series: markSeries, Value: points[0].Value}
	at := slices.IndexFunc(w.batches, func(batch []api.Sample) bool { return slices.Contains(batch, mark) })
	if at < 0 {
		w.t.Fatalf("P19: batch %d is told, which was gone, or took no step", mark.Value)
	}
	return at + 1
}

func (w *worker) beginAny() {
	j := job{kind: appends}
	var err api.Errno
	switch w.r.Intn(5) {
	case 0:
		j.kind = cuts
		j.number, err = w.e.Cut()
	case 1:
		j.kind = compacts
		j.number, err = w.e.Compact()
	case 2:
		j.kind = snaps
		j.number, err = w.e.Snapshot()
	default:
		j.batch = w.anyBatch()
		j.number, err = w.e.Append(j.batch)
	}
	if err == api.OK {
		w.jobs = append(w.jobs, j)
	} else if err != api.ErrBusy && !(w.nearEnd && err == api.ErrFull) {
		w.t.Fatalf("machine of kind %d: %d", j.kind, err)
	}
}

// move: a step of one of the machines; P16 of it.
func (w *worker) move() {
	i := w.r.Intn(len(w.jobs))
	j := &w.jobs[i]
	j.taken++
	if j.taken == 1 {
		j.then = w.told
	}
	done, result, err := w.e.Move(j.number)
	if err == api.ErrLost {
		w.lose(*j, done, result)
		return
	}
	if err != api.OK || (result != 0) != (done && j.kind == snaps) {
		w.t.Fatalf("P9: Move = %t, %d, %d", done, result, err)
	}
	told := answers(w.t, w.e)
	if told != w.told && (j.kind != appends || j.taken == 2) {
		w.t.Fatalf("P16: step %d of kind %d: %s, want %s", j.taken, j.kind, told, w.told)
	}
	w.told = told
	if j.kind == appends && j.taken == 1 {
		j.place = len(w.batches)
		w.batches = append(w.batches, j.batch)
	}
	if done {
		w.finish(*j, result)
		w.jobs = slices.Delete(w.jobs, i, i+1)
	}
}

func (w *worker) finish(j job, result int) {
	switch j.kind {
	case appends:
		w.sure = max(w.sure, j.place+1)
	case snaps:
		w.seen.done++
		w.addShot(result, j.then)
	}
}

// addShot: a snapshot is there; it brings back what it should (P17).
func (w *worker) addShot(number int, then string) {
	w.t.Helper()
	manifest, err := w.e.Manifest(number)
	if err != api.OK {
		w.t.Fatalf("P11: Manifest(%d): %d", number, err)
	}
	s := shot{number, then, manifest, archive(w.t, w.e, number, "")}
	if got := w.broughtBack(s.archive); got != then {
		w.t.Fatalf("P17: snapshot %d: %s, want %s", number, got, then)
	}
	w.shots = append(w.shots, s)
}

func (w *worker) broughtBack(archive string) string {
	w.t.Helper()
	return answers(w.t, openFiles(w.t, restored(w.t, archive), quiet))
}

// lose: power was lost in a step of a machine.
func (w *worker) lose(j job, done bool, result int) {
	w.t.Helper()
	if done || result != 0 {
		w.t.Fatalf("P15: Move = %t, %d, with ErrLost", done, result)
	}
	w.lost = true
	w.seen.steps[j.kind]++
	if j.kind == snaps {
		w.halves = append(w.halves, j.then)
	}
}

func (w *worker) run(turns int) {
	for range turns {
		if w.lost {
			return
		}
		if len(w.jobs) == 0 || len(w.jobs) < 6 && w.r.Intn(3) == 0 {
			w.beginAny()
		} else {
			w.move()
		}
	}
}

// live: an engine of files works until power is lost, or for so many turns;
// what it leaves. Power may be lost in Open already.
func (w *worker) live(given []api.File, o api.Options, turns int) []api.File {
	w.t.Helper()
	e, err := silo.Open(given, o)
	if e == nil || err != api.OK && err != api.ErrLost && !(w.nearEnd && err == api.ErrFull) {
		w.t.Fatalf("P19: Open(%q, %v) = %v, %d", given, o, e, err)
	}
	w.jobs, w.lost = nil, err != api.OK
	if w.lost {
		w.onEnd++
		w.seen.opens[min(w.onEnd, 3)]++
	} else {
		w.onEnd = 0
		w.resume(e)
		w.run(turns)
	}
	return e.Files()
}

// resume: the work goes on with an engine of what was left.
func (w *worker) resume(e *silo.Engine) {
	w.t.Helper()
	j := w.wantWhole(e)
	if j < len(w.batches) {
		w.seen.gone++
	}
	if j > w.sure {
		w.seen.beyond++
	}
	w.batches, w.sure = w.batches[:j], j
	w.e, w.told = e, answers(w.t, e)
	w.takeHalves()
}

// wantWhole: an engine of what was left has all that it must have (P19); by
// how many batches.
func (w *worker) wantWhole(e *silo.Engine) int {
	w.t.Helper()
	j := w.behind(e)
	if j < w.sure {
		w.t.Fatalf("P19: %d batches are left, want %d", j, w.sure)
	}
	if got, want := answers(w.t, e), answersOf(w.batches[:j]); got != want {
		w.t.Fatalf("P19: behind %d batches: %s, want %s", j, got, want)
	}
	for _, s := range w.shots {
		manifest, err := e.Manifest(s.number)
		if manifest != s.manifest || err != api.OK {
			w.t.Fatalf("P19: Manifest(%d) = %q, %d, want %q", s.number, manifest, err, s.manifest)
		}
		if got := archive(w.t, e, s.number, ""); got != s.archive {
			w.t.Fatalf("P19: Backup(%d) = %q, want %q", s.number, got, s.archive)
		}
	}
	return j
}

// takeHalves: a snapshot that was not done may be there all the same, if power
// was lost in its last step; it is whole then.
func (w *worker) takeHalves() {
	w.t.Helper()
	for _, f := range w.e.Files() {
		a := manifestText.FindStringSubmatch(f.Name)
		if a == nil {
			continue
		}
		number := asNumber(a[1])
		if slices.ContainsFunc(w.shots, func(s shot) bool { return s.number == number }) {
			continue
		}
		then := w.broughtBack(archive(w.t, w.e, number, ""))
		if !slices.Contains(w.halves, then) {
			w.t.Fatalf("P8: snapshot %d, which is half done, tells %s", number, then)
		}
		w.seen.halves++
		w.addShot(number, then)
	}
	w.halves = nil
}

// worked: a worker whose engine never lost power.
func worked(t *testing.T, seed int64) *worker {
	t.Helper()
	w := newWorker(t, seed)
	w.live(nil, quiet, 150+w.r.Intn(150))
	return w
}

// survived: a worker that lost power some times. It has an engine of what was
// left then, which worked on.
func survived(t *testing.T, seed int64) *worker {
	t.Helper()
	w := newWorker(t, seed)
	var left []api.File
	for range 1 + w.r.Intn(4) {
		left = w.live(left, anyLoss(w.r, 80), 100)
	}
	w.live(left, quiet, 100)
	return w
}
