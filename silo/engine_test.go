package silo_test

import (
	"math"
	"slices"
	"testing"

	"silo/api"
	"silo/silo"
)

var quiet = api.Options{Crash: api.Never}

const (
	least    = math.MinInt
	greatest = math.MaxInt
)

func open(t *testing.T, o api.Options) *silo.Engine {
	t.Helper()
	e, err := silo.Open(nil, o)
	if e == nil || err != api.OK {
		t.Fatalf("P4: Open = %v, %d", e, err)
	}
	return e
}

// files: of name, data, name, data, ..
func files(l ...string) []api.File {
	var out []api.File
	for i := 0; i+1 < len(l); i += 2 {
		out = append(out, api.File{Name: l[i], Data: l[i+1]})
	}
	return out
}

func wantFiles(t *testing.T, why string, e *silo.Engine, want ...string) {
	t.Helper()
	if got := e.Files(); !slices.Equal(got, files(want...)) {
		t.Errorf("P14: %s: Files = %q, want %q", why, got, files(want...))
	}
}

// wantBegun: of a call that must begin the machine of a number.
func wantBegun(t *testing.T, want int) func(int, api.Errno) {
	return func(got int, err api.Errno) {
		t.Helper()
		if got != want || err != api.OK {
			t.Errorf("P9: machine %d, error %d, want machine %d", got, err, want)
		}
	}
}

func wantRefused(t *testing.T, why string, want api.Errno) func(int, api.Errno) {
	return func(got int, err api.Errno) {
		t.Helper()
		if got != 0 || err != want {
			t.Errorf("%s: machine %d, error %d, want 0, %d", why, got, err, want)
		}
	}
}

func wantMove(t *testing.T, e *silo.Engine, machine int, done bool) {
	t.Helper()
	if d, result, err := e.Move(machine); d != done || result != 0 || err != api.OK {
		t.Errorf("P9: Move(%d) = %t, %d, %d, want %t", machine, d, result, err, done)
	}
}

func wantNoMachine(t *testing.T, e *silo.Engine, machines ...int) {
	t.Helper()
	for _, n := range machines {
		if done, result, err := e.Move(n); done || result != 0 || err != api.ErrMachine {
			t.Errorf("P9: Move(%d) = %t, %d, %d, want ErrMachine", n, done, result, err)
		}
	}
}

func wantQuery(t *testing.T, e *silo.Engine, series, from, to int, want ...api.Point) {
	t.Helper()
	if got, err := e.Query(series, from, to); !slices.Equal(got, want) || err != api.OK {
		t.Errorf("P10: Query(%d, %d, %d) = %v, %d, want %v", series, from, to, got, err, want)
	}
}

// put: an Append from its beginning to its end.
func put(t *testing.T, e *silo.Engine, batch ...api.Sample) {
	t.Helper()
	n, err := e.Append(batch)
	if err != api.OK {
		t.Fatalf("P5: Append(%v): %d", batch, err)
	}
	wantMove(t, e, n, false)
	wantMove(t, e, n, true)
}

// cut: a Cut from its beginning to its end.
func cut(t *testing.T, e *silo.Engine) {
	t.Helper()
	n, err := e.Cut()
	if err != api.OK {
		t.Fatalf("P6: Cut: %d", err)
	}
	for step := 1; step <= 4; step++ {
		wantMove(t, e, n, step == 4)
	}
}

func TestOpenOfNoFiles(t *testing.T) {
	for _, none := range [][]api.File{nil, {}} {
		for _, o := range []api.Options{quiet, {Crash: 2}, {Crash: greatest, Dirs: greatest, Keeps: []int{0, greatest}}, {Crash: api.Never, Keeps: []int{}}} {
			e, err := silo.Open(none, o)
			if e == nil || err != api.OK {
				t.Fatalf("P4: Open(%v, %v) = %v, %d", none, o, e, err)
			}
			wantFiles(t, "new", e, "w0", "")
			for series := range api.MaxSeries {
				wantQuery(t, e, series, least, greatest)
			}
			wantNoMachine(t, e, 0, 1)
		}
	}
}

func TestOpenErrors(t *testing.T) {
	twice := files("a", "x", "b", "", "a", "x")
	for _, c := range []struct {
		files []api.File
		o     api.Options
		want  api.Errno
	}{
		{nil, api.Options{Crash: -2}, api.ErrOption},
		{nil, api.Options{Crash: least}, api.ErrOption},
		{nil, api.Options{Crash: api.Never, Dirs: -1}, api.ErrOption},
		{nil, api.Options{Dirs: least}, api.ErrOption},
		{nil, api.Options{Crash: api.Never, Keeps: []int{-1}}, api.ErrOption},
		{nil, api.Options{Crash: api.Never, Keeps: []int{3, 0, least}}, api.ErrOption},
		{files("a", ""), api.Options{Crash: -2, Dirs: -1, Keeps: []int{-1}}, api.ErrOption},
		{twice, quiet, api.ErrDisk},
		{files("w0", "", "w0", ""), quiet, api.ErrDisk},
		{files("", "", "", "x"), quiet, api.ErrDisk},
		// Both apply: the files are named first.
		{twice, api.Options{Crash: -2}, api.ErrDisk},
		{twice, api.Options{Dirs: -1}, api.ErrDisk},
		{twice, api.Options{Keeps: []int{-1}}, api.ErrDisk},
		// Power that would be lost in Open is no error of its arguments.
		{twice, api.Options{Crash: 0}, api.ErrDisk},
		{nil, api.Options{Crash: 0, Dirs: -1}, api.ErrOption},
	} {
		if e, err := silo.Open(c.files, c.o); e != nil || err != c.want {
			t.Errorf("P4: Open(%v, %v) = %v, %d, want nil, %d", c.files, c.o, e, err, c.want)
		}
	}
}

func TestOpenNeitherWritesNorKeeps(t *testing.T) {
	o := api.Options{Crash: 3, Keeps: []int{1, 9}}
	keeps := slices.Clone(o.Keeps)
	e := open(t, api.Options{Crash: o.Crash, Keeps: o.Keeps[:1]})
	if !slices.Equal(o.Keeps, keeps) {
		t.Errorf("P2: Keeps behind Open: %v", o.Keeps)
	}
	clear(o.Keeps)
	e.Append([]api.Sample{{Series: 1}})
	wantMove(t, e, 1, false)
	if done, result, err := e.Move(1); done || result != 0 || err != api.ErrLost {
		t.Errorf("P15: Move = %t, %d, %d", done, result, err)
	}
	wantFiles(t, "one byte more was to be kept", e, "w0", "F")
}

func TestMachinesAreNumberedOverAllKinds(t *testing.T) {
	e := open(t, quiet)
	one := []api.Sample{{Series: 1, Time: 2, Value: 3}}
	wantNoMachine(t, e, 0, -1, 1, 2, least, greatest)
	wantBegun(t, 1)(e.Append(one))
	wantBegun(t, 2)(e.Cut())
	wantRefused(t, "P6", api.ErrBusy)(e.Cut())
	wantRefused(t, "P5", api.ErrBatch)(e.Append(nil))
	wantBegun(t, 3)(e.Append(one))
	wantNoMachine(t, e, 0, 4, -1, -2, -3)
	wantMove(t, e, 2, true)
	wantNoMachine(t, e, 2)
	wantBegun(t, 4)(e.Cut())
	wantMove(t, e, 3, false)
	wantMove(t, e, 1, false)
	wantMove(t, e, 1, true)
	wantMove(t, e, 4, false)
	wantMove(t, e, 3, true)
	wantNoMachine(t, e, 0, 1, 2, 3, 5, least, greatest)
	wantMove(t, e, 4, false)
	wantMove(t, e, 4, false)
	wantMove(t, e, 4, true)
	wantNoMachine(t, e, 1, 2, 3, 4, 5)
	wantBegun(t, 5)(e.Append(one))
}

// TestFilesAreInOrderAsStrings: b10.10 is ahead of b2.2 (P14).
func TestFilesAreInOrderAsStrings(t *testing.T) {
	e := open(t, quiet)
	want := map[string]string{}
	for i := range 12 {
		x := api.Sample{Series: i, Time: -i, Value: uint64(i)}
		put(t, e, x)
		cut(t, e)
		want[blockName(i)] = modelFile(i, i, []api.Sample{x})
	}
	var names []string
	for _, f := range e.Files() {
		names = append(names, f.Name)
		if f.Data != want[f.Name] {
			t.Errorf("P14: %s has %x, want %x", f.Name, f.Data, want[f.Name])
		}
	}
	if order := []string{"b0.0", "b1.1", "b10.10", "b11.11", "b2.2", "b3.3", "b4.4", "b5.5", "b6.6", "b7.7", "b8.8", "b9.9", "w12"}; !slices.Equal(names, order) {
		t.Errorf("P14: %q, want %q", names, order)
	}
}

func TestFilesAnswersNewMemory(t *testing.T) {
	e := open(t, quiet)
	put(t, e, api.Sample{Series: 1, Time: 2, Value: 3})
	cut(t, e)
	one, two := e.Files(), e.Files()
	room := one[:cap(one)]
	for i := range room {
		room[i] = api.File{Name: "x", Data: "y"}
	}
	block := modelFile(0, 0, []api.Sample{{Series: 1, Time: 2, Value: 3}})
	wantFiles(t, "behind what was written into an answer", e, "b0.0", block, "w1", "")
	if !slices.Equal(two, files("b0.0", block, "w1", "")) || slices.Contains(two[:cap(two)], api.File{Name: "x", Data: "y"}) {
		t.Errorf("P2: two answers of Files share memory: %q", two)
	}
}

func TestTwoEnginesShareNothing(t *testing.T) {
	e, other := open(t, quiet), open(t, quiet)
	put(t, e, api.Sample{Series: 1, Time: 1, Value: 1})
	wantFiles(t, "the other one", other, "w0", "")
	wantQuery(t, other, 1, least, greatest)
	wantBegun(t, 1)(other.Append([]api.Sample{{Series: 1, Time: 1, Value: 2}}))
	wantBegun(t, 2)(e.Cut())
	wantNoMachine(t, other, 2)
	wantBegun(t, 2)(other.Cut())
	wantMove(t, other, 1, false)
	wantMove(t, e, 2, false)
	wantFiles(t, "the other one", other, "w0", modelFrame([]api.Sample{{Series: 1, Time: 1, Value: 2}}))
	wantQuery(t, e, 1, least, greatest, api.Point{Time: 1, Value: 1})
	wantQuery(t, other, 1, least, greatest, api.Point{Time: 1, Value: 2})
}
