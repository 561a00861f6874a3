package silo_test

import (
	"fmt"
	"math/rand"
	"slices"
	"strings"
	"testing"

	"silo/api"
	"silo/silo"
)

func openFiles(t *testing.T, given []api.File, o api.Options) *silo.Engine {
	t.Helper()
	e, err := silo.Open(given, o)
	if e == nil || err != api.OK {
		t.Fatalf("P4: Open(%q) = %v, %d", given, e, err)
	}
	return e
}

// one: a block with a sample of series 1 at a time.
func one(lo, hi, time int, value uint64) string {
	return modelFile(lo, hi, []api.Sample{{Series: 1, Time: time, Value: value}})
}

// frameOf: a frame with such a sample.
func frameOf(time int, value uint64) string {
	return modelFrame([]api.Sample{{Series: 1, Time: time, Value: value}})
}

// none: a block without samples.
func none(lo, hi int) string { return modelFile(lo, hi, nil) }

// manifestOf: of name, file, name, file, ..
func manifestOf(l ...string) string {
	out := "silo\n"
	for i := 0; i+1 < len(l); i += 2 {
		out += modelLine(l[i], l[i+1])
	}
	return out
}

// wantAsTheModel: Open of the files is as the document says, also if power is
// lost ahead of any of its operations, and so in their order.
func wantAsTheModel(t *testing.T, given []api.File) {
	t.Helper()
	r := rand.New(rand.NewSource(1))
	p := openPair(t, r, given, quiet)
	for series := range api.MaxSeries {
		p.query(series, least, greatest)
	}
	operations := len(p.model.ops)
	for crash := range operations + 1 {
		for dirs := range operations + 1 {
			openPair(t, r, given, api.Options{Crash: crash, Dirs: dirs, Keeps: []int{1, 0}})
		}
	}
}

func TestOpenOfFiles(t *testing.T) {
	x, y := one(0, 2, 1, 1), one(4, 4, 1, 2)
	m := manifestOf("b0.2", x)
	for why, c := range map[string]struct {
		given, left []string
		want        []api.Point // of series 1
	}{
		"a block":                        {[]string{"b0.2", x}, []string{"b0.2", x, "w3", ""}, []api.Point{{Time: 1, Value: 1}}},
		"blocks by rising lo":            {[]string{"b4.4", y, "b0.2", x}, []string{"b0.2", x, "b4.4", y, "w5", ""}, []api.Point{{Time: 1, Value: 2}}},
		"rising lo is not rising names":  {[]string{"b10.10", one(10, 10, 1, 10), "b9.9", one(9, 9, 1, 9)}, []string{"b10.10", one(10, 10, 1, 10), "b9.9", one(9, 9, 1, 9), "w11", ""}, []api.Point{{Time: 1, Value: 10}}},
		"a log":                          {[]string{"w7", frameOf(1, 5) + frameOf(2, 6)}, []string{"w7", frameOf(1, 5) + frameOf(2, 6), "w8", ""}, []api.Point{{Time: 1, Value: 5}, {Time: 2, Value: 6}}},
		"an empty log":                   {[]string{"w7", ""}, []string{"w7", "", "w8", ""}, nil},
		"logs by rising numbers":         {[]string{"w9", frameOf(1, 9), "w10", frameOf(1, 10)}, []string{"w10", frameOf(1, 10), "w11", "", "w9", frameOf(1, 9)}, []api.Point{{Time: 1, Value: 10}}},
		"frame by frame":                 {[]string{"w0", frameOf(1, 1) + frameOf(1, 2)}, []string{"w0", frameOf(1, 1) + frameOf(1, 2), "w1", ""}, []api.Point{{Time: 1, Value: 2}}},
		"the head lies on the blocks":    {[]string{"b0.2", x, "w3", frameOf(1, 7)}, []string{"b0.2", x, "w3", frameOf(1, 7), "w4", ""}, []api.Point{{Time: 1, Value: 7}}},
		"a block in another":             {[]string{"b0.2", x, "b1.1", one(1, 1, 9, 9)}, []string{"b0.2", x, "w3", ""}, []api.Point{{Time: 1, Value: 1}}},
		"in another from its lo on":      {[]string{"b0.2", x, "b0.1", one(0, 1, 9, 9)}, []string{"b0.2", x, "w3", ""}, []api.Point{{Time: 1, Value: 1}}},
		"in another up to its hi":        {[]string{"b0.2", x, "b2.2", one(2, 2, 9, 9)}, []string{"b0.2", x, "w3", ""}, []api.Point{{Time: 1, Value: 1}}},
		"in another that is in another":  {[]string{"b1.1", none(1, 1), "b0.9", none(0, 9), "b0.2", x}, []string{"b0.9", none(0, 9), "w10", ""}, nil},
		"logs in a block":                {[]string{"b1.3", one(1, 3, 1, 1), "w1", frameOf(9, 9), "w2", "", "w3", "nonsense", "w4", ""}, []string{"b1.3", one(1, 3, 1, 1), "w4", "", "w5", ""}, []api.Point{{Time: 1, Value: 1}}},
		"a log that goes is not read":    {[]string{"b1.1", one(1, 1, 1, 1), "w1", framed("")}, []string{"b1.1", one(1, 1, 1, 1), "w2", ""}, []api.Point{{Time: 1, Value: 1}}},
		"bytes behind the frames":        {[]string{"w1", frameOf(1, 1) + "F", "w2", frameOf(2, 2) + frameOf(3, 3)[:9], "w3", "nothing"}, []string{"w1", frameOf(1, 1), "w2", frameOf(2, 2), "w3", "", "w4", ""}, []api.Point{{Time: 1, Value: 1}, {Time: 2, Value: 2}}},
		"a frame behind what is none":    {[]string{"w1", frameOf(1, 1) + "x" + frameOf(2, 2)}, []string{"w1", frameOf(1, 1), "w2", ""}, []api.Point{{Time: 1, Value: 1}}},
		"no payload behind what is none": {[]string{"w1", frameOf(1, 1) + "x" + framed("")}, []string{"w1", frameOf(1, 1), "w2", ""}, []api.Point{{Time: 1, Value: 1}}},
		"a snapshot":                     {[]string{"s7.m", m, "s7.b0.2", x}, []string{"s7.b0.2", x, "s7.m", m, "w8", ""}, nil},
		"a snapshot of nothing":          {[]string{"s0.m", "silo\n"}, []string{"s0.m", "silo\n", "w1", ""}, nil},
		"a snapshot's own block":         {[]string{"s7.m", manifestOf("b9.9", "any"), "s7.b9.9", "any"}, []string{"s7.b9.9", "any", "s7.m", manifestOf("b9.9", "any"), "w10", ""}, nil},
		"two snapshots":                  {[]string{"s7.m", m, "s7.b0.2", x, "s9.m", manifestOf("b0.2", x, "b4.4", y), "s9.b0.2", x, "s9.b4.4", y}, []string{"s7.b0.2", x, "s7.m", m, "s9.b0.2", x, "s9.b4.4", y, "s9.m", manifestOf("b0.2", x, "b4.4", y), "w10", ""}, nil},
		"what a snapshot does not name":  {[]string{"s7.m", m, "s7.b0.2", x, "s7.b4.4", y, "s7.b0.1", x}, []string{"s7.b0.2", x, "s7.m", m, "w8", ""}, nil},
		"a snapshot beside an engine":    {[]string{"s2.m", m, "s2.b0.2", x, "b0.0", one(0, 0, 5, 5), "w1", frameOf(6, 6)}, []string{"b0.0", one(0, 0, 5, 5), "s2.b0.2", x, "s2.m", m, "w1", frameOf(6, 6), "w3", ""}, []api.Point{{Time: 5, Value: 5}, {Time: 6, Value: 6}}},
		"a file is not there":            {[]string{"s7.m", m}, []string{"w0", ""}, nil},
		"an empty file is not there":     {[]string{"s7.m", manifestOf("b0.0", "")}, []string{"w0", ""}, nil},
		"an empty file is there":         {[]string{"s7.m", manifestOf("b0.0", ""), "s7.b0.0", ""}, []string{"s7.b0.0", "", "s7.m", manifestOf("b0.0", ""), "w8", ""}, nil},
		"one of two is not there":        {[]string{"s7.m", manifestOf("b0.2", x, "b4.4", y), "s7.b0.2", x}, []string{"w0", ""}, nil},
		"a file is shorter":              {[]string{"s7.m", m, "s7.b0.2", x[:len(x)-1]}, []string{"w0", ""}, nil},
		"a file has another hash":        {[]string{"s7.m", m, "s7.b0.2", x[:len(x)-1] + "!"}, []string{"w0", ""}, nil},
		"another length is said":         {[]string{"s7.m", strings.Replace(m, fmt.Sprint(" ", len(x), " "), " 5 ", 1), "s7.b0.2", x}, []string{"w0", ""}, nil},
		"there is no manifest":           {[]string{"s7.b0.2", x}, []string{"w0", ""}, nil},
		"the manifest is another's":      {[]string{"s7.b0.2", x, "s8.m", m}, []string{"w0", ""}, nil},
		"the manifest is not right":      {[]string{"s7.m", strings.TrimSuffix(m, "\n"), "s7.b0.2", x}, []string{"w0", ""}, nil},
		"the manifest is empty":          {[]string{"s7.m", ""}, []string{"w0", ""}, nil},
		"ranges of a manifest meet":      {[]string{"s7.m", manifestOf("b0.2", x, "b2.4", y), "s7.b0.2", x, "s7.b2.4", y}, []string{"w0", ""}, nil},
		"its block is not the engine's":  {[]string{"s7.m", m, "b0.2", x}, []string{"b0.2", x, "w3", ""}, []api.Point{{Time: 1, Value: 1}}},
		"names of no kind":               {[]string{"", "x", "w", "", "w01", "", "w1000000", "", "w-1", "", "b0", "", "b0.00", "", "b3.2", "", "b0.1000000", "", "t.b", "x", "t.c", "", "t.s", "", "s1", "", "s1.x", "", "s01.m", "silo\n", "s1000000.m", "silo\n", "s1.b3.2", "", "x", "", "W1", "", "\xff", "", "w1 ", "", "b0.0\n", ""}, []string{"w0", ""}, nil},
		"what goes has no number":        {[]string{"w3", "", "s900.b1.1", "", "t.b", "", "b800.7", "", "s901.m", "x"}, []string{"w3", "", "w4", ""}, nil},
		"the greatest of a hi":           {[]string{"b0.41", none(0, 41), "b5.40", none(5, 40)}, []string{"b0.41", none(0, 41), "w42", ""}, nil},
		"the last number":                {[]string{"w999998", ""}, []string{"w999998", "", "w999999", ""}, nil},
	} {
		t.Run(why, func(t *testing.T) {
			given := files(c.given...)
			before := slices.Clone(given)
			e := openFiles(t, given, quiet)
			wantFiles(t, why, e, c.left...)
			wantQuery(t, e, 1, least, greatest, c.want...)
			wantNoMachine(t, e, 0, 1)
			if !slices.Equal(given, before) {
				t.Errorf("P2: Open wrote into what was handed in: %q", given)
			}
			wantAsTheModel(t, given)
		})
	}
}

// bad: files that say what can't be, each for its own reason.
func bad() map[string][]api.File {
	x, y := one(0, 2, 1, 1), one(4, 4, 1, 2)
	return map[string][]api.File{
		"an empty block":                     files("b0.0", ""),
		"no block":                           files("b0.0", "x"),
		"a block with a bit turned":          files("b0.2", x[:4]+"!"+x[5:]),
		"a block with a byte more":           files("b0.2", x+"x"),
		"another lo":                         files("b1.2", x),
		"another hi":                         files("b0.3", x),
		"a block that goes is looked at too": files("b0.2", x, "b1.1", "x"),
		"a range in another's, not its own":  files("b0.2", x, "b1.1", y),
		"ranges that meet":                   files("b0.2", x, "b2.4", none(2, 4)),
		"that meet by more":                  files("b0.5", none(0, 5), "b3.9", none(3, 9)),
		"that meet within another":           files("b0.9", none(0, 9), "b1.4", none(1, 4), "b4.6", none(4, 6)),
		"with one between":                   files("b0.9", none(0, 9), "b1.6", none(1, 6), "b2.3", none(2, 3), "b5.8", none(5, 8)),
		"a third that meets the first":       files("b0.4", none(0, 4), "b1.1", none(1, 1), "b4.5", none(4, 5)),
		"a log below a block":                files("b4.4", y, "w3", ""),
		"a log below, far":                   files("b4.4", y, "w0", frameOf(1, 1)),
		"a log between blocks":               files("b0.2", x, "b4.4", y, "w3", ""),
		"a log below, one above":             files("b4.4", y, "w3", "", "w5", ""),
		"a batch of none":                    files("w0", framed("")),
		"half a sample":                      files("w0", framed("\x01\x02")),
		"series 16":                          files("w0", framed("\x10\x00\x00")),
		"nine samples":                       files("w0", framed(strings.Repeat("\x01\x00\x00", 9))),
		"a byte behind eight":                files("w0", framed(strings.Repeat("\x01\x00\x00", 8)+"\x01")),
		"a long code":                        files("w0", framed("\x81\x00\x00\x00")),
		"the second frame":                   files("w0", frameOf(1, 1)+framed("")),
		"the second log":                     files("w0", frameOf(1, 1), "w5", framed("\x01")),
		"with bytes behind":                  files("w0", framed("")+"x"),
		"beside a snapshot and more":         files("b0.0", "x", "s1.m", "silo\n", "t.b", "", "w9", "torn", "s2.m", ""),
	}
}

// wantFault: all calls but Files answer with an error, whatever they are given.
func wantFault(t *testing.T, why string, e *silo.Engine, want api.Errno) {
	t.Helper()
	for _, batch := range [][]api.Sample{nil, {{}}, {{Series: 99}}} {
		wantRefused(t, why, want)(e.Append(batch))
	}
	wantRefused(t, why, want)(e.Cut())
	wantRefused(t, why, want)(e.Compact())
	wantRefused(t, why, want)(e.Snapshot())
	for _, n := range []int{-1, 0, 1, 2, greatest} {
		if done, result, err := e.Move(n); done || result != 0 || err != want {
			t.Errorf("P15: %s: Move(%d) = %t, %d, %d", why, n, done, result, err)
		}
		if points, err := e.Query(n, least, greatest); len(points) != 0 || err != want {
			t.Errorf("P15: %s: Query(%d) = %v, %d", why, n, points, err)
		}
		if text, err := e.Manifest(n); text != "" || err != want {
			t.Errorf("P15: %s: Manifest(%d) = %q, %d", why, n, text, err)
		}
		for _, base := range []string{"", "silo\n", "x"} {
			if text, err := e.Backup(n, base); text != "" || err != want {
				t.Errorf("P15: %s: Backup(%d, %q) = %q, %d", why, n, base, text, err)
			}
		}
	}
}

func TestOpenOfWhatCantBe(t *testing.T) {
	for why, given := range bad() {
		before := slices.Clone(given)
		for _, o := range []api.Options{quiet, {Crash: 0}, {Crash: 1, Dirs: 3}} {
			e, err := silo.Open(given, o)
			if e == nil || err != api.ErrCorrupt {
				t.Errorf("P4: %s: Open = %v, %d", why, e, err)
				continue
			}
			wantFault(t, why, e, api.ErrCorrupt)
			sorted := slices.Clone(before)
			slices.SortFunc(sorted, func(a, b api.File) int { return strings.Compare(a.Name, b.Name) })
			wantFiles(t, why+": left as they are", e, flat(sorted)...)
		}
		if !slices.Equal(given, before) {
			t.Errorf("P2: %s: Open wrote into %q", why, given)
		}
		wantAsTheModel(t, given)
	}
}

func TestOpenWhenNumbersRunOut(t *testing.T) {
	for why, c := range map[string]struct{ given, left []string }{
		"a log":              {[]string{"w999999", ""}, []string{"w999999", ""}},
		"a log that is torn": {[]string{"w999999", "x"}, []string{"w999999", ""}},
		"a block":            {[]string{"b5.999999", none(5, 999999), "w7", "", "t.b", ""}, []string{"b5.999999", none(5, 999999)}},
		"a snapshot":         {[]string{"s999999.m", "silo\n", "x", ""}, []string{"s999999.m", "silo\n"}},
		"a snapshot's block": {[]string{"s1.m", manifestOf("b999999.999999", "x"), "s1.b999999.999999", "x"}, []string{"s1.b999999.999999", "x", "s1.m", manifestOf("b999999.999999", "x")}},
	} {
		e, err := silo.Open(files(c.given...), quiet)
		if e == nil || err != api.ErrFull {
			t.Fatalf("P4: %s: Open = %v, %d", why, e, err)
		}
		wantFault(t, why, e, api.ErrFull)
		wantFiles(t, why, e, c.left...)
		wantAsTheModel(t, files(c.given...))
	}
	// What goes does not count.
	e := openFiles(t, files("s999999.m", "", "b3.3", none(3, 3), "s999999.b0.0", "", "t999999", ""), quiet)
	wantFiles(t, "what goes", e, "b3.3", none(3, 3), "w4", "")
}

// TestALossInOpenComesAheadOfItsErrors: but where no operation is come to, no
// power is lost.
func TestALossInOpenComesAheadOfItsErrors(t *testing.T) {
	for crash, want := range []api.Errno{api.ErrLost, api.ErrLost, api.ErrFull, api.ErrFull} {
		e, err := silo.Open(files("w999999", "x"), api.Options{Crash: crash})
		if e == nil || err != want {
			t.Errorf("P15: Open, crash %d = %v, %d", crash, e, err)
		}
		wantFault(t, "full or lost", e, want)
	}
}

// TestOpenAgain: of what an Open left there is nothing to be done but one more
// log.
func TestOpenAgain(t *testing.T) {
	x := one(0, 2, 1, 1)
	m := manifestOf("b0.2", x)
	log := frameOf(2, 2)
	stays := []string{"b0.2", x, "s7.b0.2", x, "s7.m", m}
	given := files("b0.2", x, "b1.1", none(1, 1), "w2", "", "w3", log+"x", "s7.m", m, "s7.b0.2", x, "s7.b3.3", "", "t.c", "x")
	for _, logs := range [][]string{
		{"w3", log, "w8", ""},
		{"w3", log, "w8", "", "w9", ""},
		{"w10", "", "w3", log, "w8", "", "w9", ""},
		{"w10", "", "w11", "", "w3", log, "w8", "", "w9", ""},
	} {
		e := openFiles(t, given, quiet)
		wantFiles(t, "opened", e, slices.Concat(stays, logs)...)
		wantQuery(t, e, 1, least, greatest, api.Point{Time: 1, Value: 1}, api.Point{Time: 2, Value: 2})
		wantAsTheModel(t, given)
		given = e.Files()
	}
}

// TestWorkGoesOnBehindOpen: what stays is live: the next cut makes one block
// of it, with the lowest and the highest number.
func TestWorkGoesOnBehindOpen(t *testing.T) {
	e := openFiles(t, files("b0.2", one(0, 2, 1, 1), "w5", frameOf(1, 5)+frameOf(2, 5), "w9", frameOf(2, 9), "s20.m", "silo\n"), quiet)
	put(t, e, api.Sample{Series: 1, Time: 3, Value: 21})
	wantFiles(t, "appended to the new log", e, "b0.2", one(0, 2, 1, 1), "s20.m", "silo\n", "w21", frameOf(3, 21), "w5", frameOf(1, 5)+frameOf(2, 5), "w9", frameOf(2, 9))
	cut(t, e)
	block := modelFile(5, 21, []api.Sample{{Series: 1, Time: 1, Value: 5}, {Series: 1, Time: 2, Value: 9}, {Series: 1, Time: 3, Value: 21}})
	wantFiles(t, "cut", e, "b0.2", one(0, 2, 1, 1), "b5.21", block, "s20.m", "silo\n", "w22", "")
	wantQuery(t, e, 1, least, greatest, api.Point{Time: 1, Value: 5}, api.Point{Time: 2, Value: 9}, api.Point{Time: 3, Value: 21})
	n, _ := e.Compact()
	wantMove(t, e, n, false)
	wantMove(t, e, n, false)
	wantMove(t, e, n, true)
	wantFiles(t, "compacted", e, "b0.21", modelFile(0, 21, []api.Sample{{Series: 1, Time: 1, Value: 5}, {Series: 1, Time: 2, Value: 9}, {Series: 1, Time: 3, Value: 21}}), "s20.m", "silo\n", "w22", "")
}
