package silo_test

import (
	"math/rand"
	"slices"
	"testing"

	"silo/api"
	"silo/silo"
)

// pair: an engine and its model, which get the same calls.
type pair struct {
	t       *testing.T
	r       *rand.Rand
	engine  *silo.Engine
	model   *modelEngine
	options api.Options
}

// lost: power is lost ahead of an operation that the model has done.
func (p *pair) lost() bool {
	return p.options.Crash != api.Never && len(p.model.ops) > p.options.Crash
}

// told: an error, or that power was lost, which comes ahead of all.
func (p *pair) told(err api.Errno) api.Errno {
	if p.lost() {
		return api.ErrLost
	}
	return err
}

func (p *pair) files() []api.File {
	if p.lost() {
		return left(p.model.ops[:p.options.Crash], p.options)
	}
	return now(p.model.ops)
}

func (p *pair) check(why string, got, want any) {
	p.t.Helper()
	if got != want {
		p.t.Fatalf("%s = %v, want %v", why, got, want)
	}
}

type begun struct {
	number int
	err    api.Errno
}

type moved struct {
	done   bool
	result int
	err    api.Errno
}

func (p *pair) append() {
	var batch []api.Sample
	for range p.r.Intn(10) {
		batch = append(batch, api.Sample{Series: p.r.Intn(4), Time: anyTime(p.r), Value: anyValue(p.r)})
		if p.r.Intn(60) == 0 {
			batch[0].Series = p.r.Intn(2)*17 - 1
		}
	}
	number, err := p.engine.Append(batch)
	want := begun{0, p.told(api.OK)}
	if !p.lost() {
		want.number, want.err = p.model.append(batch)
	}
	p.check("P5: Append", begun{number, err}, want)
	clear(batch)
}

func (p *pair) cut() {
	number, err := p.engine.Cut()
	want := begun{0, p.told(api.OK)}
	if !p.lost() {
		want.number, want.err = p.model.cut()
	}
	p.check("P6: Cut", begun{number, err}, want)
}

func (p *pair) move() {
	machine := p.model.begun + 1 - p.r.Intn(8)
	done, result, err := p.engine.Move(machine)
	want := moved{err: p.told(api.OK)}
	if !p.lost() {
		want.done, want.err = p.model.move(machine)
	}
	if p.lost() {
		want = moved{err: api.ErrLost}
	}
	p.check("P9: Move", moved{done, result, err}, want)
}

func (p *pair) query() {
	series, from, to := p.r.Intn(6)-1, anyTime(p.r), anyTime(p.r)
	got, err := p.engine.Query(series, from, to)
	want, wantErr := p.model.query(series, from, to)
	if p.lost() {
		want, wantErr = nil, api.ErrLost
	}
	if !slices.Equal(got, want) || err != wantErr {
		p.t.Fatalf("P10: Query(%d, %d, %d) = %v, %d, want %v, %d", series, from, to, got, err, want, wantErr)
	}
}

func (p *pair) run(calls int) {
	for range calls {
		switch n := p.r.Intn(20); {
		case n < 4:
			p.append()
		case n < 5:
			p.cut()
		case n < 17:
			p.move()
		default:
			p.query()
		}
		if got, want := p.engine.Files(), p.files(); !slices.Equal(got, want) {
			p.t.Fatalf("P14: Files = %q, want %q", got, want)
		}
	}
}

func TestCallsInAnyOrderAgainstTheModel(t *testing.T) {
	for seed := range int64(300) {
		p := &pair{t: t, r: rand.New(rand.NewSource(seed)), model: newModel(), options: quiet}
		p.engine = open(t, quiet)
		p.run(200)
	}
}

// TestPowerIsLostAnywhere: what Files tells then (P14), and that nothing else
// is told any more.
func TestPowerIsLostAnywhere(t *testing.T) {
	for seed := range int64(1500) {
		r := rand.New(rand.NewSource(seed))
		o := api.Options{Crash: r.Intn(50), Dirs: r.Intn(5)}
		for range r.Intn(4) {
			o.Keeps = append(o.Keeps, r.Intn(40))
		}
		p := &pair{t: t, r: r, model: newModel(), options: o}
		e, err := silo.Open(nil, o)
		if e == nil || err != p.told(api.OK) {
			t.Fatalf("P4, P15: Open(%v) = %v, %d", o, e, err)
		}
		p.engine = e
		p.run(120)
	}
}

func TestALostEngineAnswersNothing(t *testing.T) {
	for crash, want := range [][]api.File{nil, files("w0", ""), files("w0", ""), files("w0", "F\x03")} {
		e, err := silo.Open(nil, api.Options{Crash: crash, Dirs: 1, Keeps: []int{2}})
		if e == nil || (err == api.ErrLost) != (crash < 2) {
			t.Fatalf("P15: Open, crash %d = %v, %d", crash, e, err)
		}
		if crash >= 2 {
			wantBegun(t, 1)(e.Append([]api.Sample{{}}))
			if crash == 3 {
				wantMove(t, e, 1, false)
			}
			if done, result, err := e.Move(1); done || result != 0 || err != api.ErrLost {
				t.Errorf("P15: Move = %t, %d, %d", done, result, err)
			}
		}
		wantRefused(t, "P15", api.ErrLost)(e.Append(nil))
		wantRefused(t, "P15", api.ErrLost)(e.Append([]api.Sample{{}}))
		wantRefused(t, "P15", api.ErrLost)(e.Cut())
		wantRefused(t, "P15", api.ErrLost)(e.Compact())
		wantRefused(t, "P15", api.ErrLost)(e.Snapshot())
		for _, n := range []int{-1, 0, 1, 2} {
			if done, result, err := e.Move(n); done || result != 0 || err != api.ErrLost {
				t.Errorf("P15: Move(%d) = %t, %d, %d", n, done, result, err)
			}
		}
		for _, series := range []int{-1, 0, 16} {
			if l, err := e.Query(series, least, greatest); len(l) != 0 || err != api.ErrLost {
				t.Errorf("P15: Query(%d) = %v, %d", series, l, err)
			}
		}
		if s, err := e.Manifest(0); s != "" || err != api.ErrLost {
			t.Errorf("P15: Manifest = %q, %d", s, err)
		}
		if s, err := e.Backup(0, "x"); s != "" || err != api.ErrLost {
			t.Errorf("P15: Backup = %q, %d", s, err)
		}
		wantFiles(t, "lost", e, flat(want)...)
	}
}
