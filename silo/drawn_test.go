package silo_test

import (
	"math/rand"
	"slices"
	"testing"

	"silo/api"
	"silo/silo"
)

// pair: an engine and its model, which get the same calls.
type pair struct {
	t       *testing.T
	r       *rand.Rand
	engine  *silo.Engine
	model   *modelEngine
	options api.Options
}

// openPair: both, of the same files.
func openPair(t *testing.T, r *rand.Rand, given []api.File, o api.Options) *pair {
	t.Helper()
	p := &pair{t: t, r: r, model: openModel(given), options: o}
	e, err := silo.Open(given, o)
	if e == nil || err != p.told(p.model.fault) {
		t.Fatalf("P4, P15: Open(%q, %v) = %v, %d, want %d", given, o, e, err, p.told(p.model.fault))
	}
	p.engine = e
	p.checkFiles()
	return p
}

// lost: power is lost ahead of an operation that the model has done.
func (p *pair) lost() bool {
	return p.options.Crash != api.Never && len(p.model.ops) > p.options.Crash
}

// told: an error, or that power was lost, which comes ahead of all.
func (p *pair) told(err api.Errno) api.Errno {
	if p.lost() {
		return api.ErrLost
	}
	return err
}

func (p *pair) checkFiles() {
	p.t.Helper()
	want := now(p.model.given, p.model.ops)
	if p.lost() {
		want = left(p.model.given, p.model.ops[:p.options.Crash], p.options)
	}
	if got := p.engine.Files(); !slices.Equal(got, want) {
		p.t.Fatalf("P14: Files = %q, want %q, behind %v", got, want, p.model.ops)
	}
}

func (p *pair) check(why string, got, want any) {
	p.t.Helper()
	if got != want {
		p.t.Fatalf("%s = %v, want %v", why, got, want)
	}
}

type begun struct {
	number int
	err    api.Errno
}

type moved struct {
	done   bool
	result int
	err    api.Errno
}

type told struct {
	text string
	err  api.Errno
}

func (p *pair) append() {
	var batch []api.Sample
	for range p.r.Intn(10) {
		batch = append(batch, api.Sample{Series: p.r.Intn(4), Time: anyTime(p.r), Value: anyValue(p.r)})
		if p.r.Intn(60) == 0 {
			batch[0].Series = p.r.Intn(2)*17 - 1
		}
	}
	p.appendOf(batch)
	clear(batch)
}

func (p *pair) appendOf(batch []api.Sample) {
	p.t.Helper()
	number, err := p.engine.Append(batch)
	want := begun{0, p.told(api.OK)}
	if !p.lost() {
		want.number, want.err = p.model.append(batch)
	}
	p.check("P5: Append", begun{number, err}, want)
}

// begin: a machine of which there is one at a time.
func (p *pair) begin() {
	switch p.r.Intn(3) {
	case 0:
		p.begins(p.engine.Cut, p.model.cut)
	case 1:
		p.begins(p.engine.Compact, p.model.compact)
	case 2:
		p.begins(p.engine.Snapshot, p.model.snapshot)
	}
}

func (p *pair) begins(real, modelled func() (int, api.Errno)) {
	p.t.Helper()
	number, err := real()
	want := begun{0, p.told(api.OK)}
	if !p.lost() {
		want.number, want.err = modelled()
	}
	p.check("P6, P7, P8: Cut, Compact, Snapshot", begun{number, err}, want)
}

func (p *pair) move() { p.moves(p.model.begun + 1 - p.r.Intn(8)) }

func (p *pair) moves(machine int) {
	p.t.Helper()
	done, result, err := p.engine.Move(machine)
	want := moved{err: p.told(api.OK)}
	if !p.lost() {
		want.done, want.result, want.err = p.model.move(machine)
	}
	if p.lost() {
		want = moved{err: api.ErrLost}
	}
	p.check("P9: Move", moved{done, result, err}, want)
}

func (p *pair) query(series, from, to int) {
	got, err := p.engine.Query(series, from, to)
	want, wantErr := p.model.query(series, from, to)
	if p.lost() {
		want, wantErr = nil, api.ErrLost
	}
	if !slices.Equal(got, want) || err != wantErr {
		p.t.Fatalf("P10: Query(%d, %d, %d) = %v, %d, want %v, %d", series, from, to, got, err, want, wantErr)
	}
}

// anySnapshot: one that is there, or any number.
func (p *pair) anySnapshot() int {
	if all := p.model.snapshots(); len(all) > 0 && p.r.Intn(5) > 0 {
		return all[p.r.Intn(len(all))]
	}
	return p.r.Intn(p.model.next+3) - 1
}

func (p *pair) manifest() string {
	snapshot := p.anySnapshot()
	text, err := p.engine.Manifest(snapshot)
	want := told{err: p.told(api.OK)}
	if !p.lost() {
		want.text, want.err = p.model.manifest(snapshot)
	}
	p.check("P11: Manifest", told{text, err}, want)
	return text
}

func (p *pair) backup() {
	snapshot := p.anySnapshot()
	base := p.manifest()
	if p.r.Intn(8) == 0 {
		base = base[:p.r.Intn(len(base)+1)]
	}
	text, err := p.engine.Backup(snapshot, base)
	want := told{err: p.told(api.OK)}
	if !p.lost() {
		want.text, want.err = p.model.backup(snapshot, base)
	}
	p.check("P12: Backup", told{text, err}, want)
}

func (p *pair) run(calls int) {
	for range calls {
		switch n := p.r.Intn(24); {
		case n < 4:
			p.append()
		case n < 7:
			p.begin()
		case n < 20:
			p.move()
		case n < 22:
			p.query(p.r.Intn(6)-1, anyTime(p.r), anyTime(p.r))
		case n < 23:
			p.manifest()
		default:
			p.backup()
		}
		p.checkFiles()
	}
}

func TestCallsInAnyOrderAgainstTheModel(t *testing.T) {
	t.Parallel()
	for seed := range int64(300) {
		p := openPair(t, rand.New(rand.NewSource(seed)), nil, quiet)
		p.run(200)
	}
}

// TestOpenOfWhatAnEngineLeft: again and again, with machines that were amid
// their work.
func TestOpenOfWhatAnEngineLeft(t *testing.T) {
	t.Parallel()
	for seed := range int64(100) {
		r := rand.New(rand.NewSource(seed))
		var left []api.File
		for range 6 {
			p := openPair(t, r, left, quiet)
			p.check("P4: the error", p.model.fault, api.OK)
			p.run(60)
			left = p.engine.Files()
		}
	}
}
