package silo_test

import (
	"math"
	"math/rand"
	"slices"
	"strings"
	"testing"

	"silo/api"
	"silo/silo"
)

func wantBlock(t *testing.T, lo, hi int, list []api.Sample, want string) {
	t.Helper()
	got, e := silo.Block(lo, hi, list)
	if got != want || e != api.OK {
		t.Errorf("P3: Block(%d, %d, %v) = %x, %d, want %x", lo, hi, list, got, e, want)
	}
}

func wantSamples(t *testing.T, file string, lo, hi int, want []api.Sample) {
	t.Helper()
	gotLo, gotHi, got, e := silo.Samples(file)
	if gotLo != lo || gotHi != hi || !slices.Equal(got, want) || e != api.OK {
		t.Errorf("P3: Samples(%x) = %d, %d, %v, %d, want %d, %d, %v", file, gotLo, gotHi, got, e, lo, hi, want)
	}
}

// wantCorrupt: the error, and beside it nothing (P1).
func wantCorrupt(t *testing.T, why string, file string) {
	t.Helper()
	lo, hi, list, e := silo.Samples(file)
	if lo != 0 || hi != 0 || len(list) != 0 || e != api.ErrCorrupt {
		t.Errorf("P3, P1: %s: Samples(%x) = %d, %d, %v, %d", why, file, lo, hi, list, e)
	}
}

func TestBlockAndSamples(t *testing.T) {
	const least, greatest = "\xff\xff\xff\xff\xff\xff\xff\xff\xff\x01", "\xfe\xff\xff\xff\xff\xff\xff\xff\xff\x01"
	for _, c := range []struct {
		why    string
		lo, hi int
		list   []api.Sample
		body   string
	}{
		{"no samples", 0, 0, nil, "B\x00\x00\x00"},
		{"an empty list", 0, 999999, []api.Sample{}, "B\x00\xbf\x84\x3d\x00"},
		{"the greatest range", 999999, 999999, nil, "B\xbf\x84\x3d\xbf\x84\x3d\x00"},
		{"the document's", 0, 3, []api.Sample{{Series: 2, Time: 5, Value: 7}, {Series: 2, Time: 4, Value: 7}, {Series: 2, Time: 5, Value: 6}}, "B\x00\x03\x03\x02\x08\x07\x01\x01\x00"},
		{"the same twice", 1, 1, []api.Sample{{Series: 4, Time: 1, Value: 9}, {Series: 4, Time: 1, Value: 9}}, "B\x01\x01\x05\x01\x02\x09\x00"},
		{"the last of a time", 1, 1, []api.Sample{{Series: 4, Time: 1, Value: 9}, {Series: 5, Time: 1, Value: 7}, {Series: 4, Time: 1, Value: 0}}, "B\x01\x01\x05\x01\x02\x00\x06\x01\x02\x07\x00"},
		{"series 0 and 15", 1, 2, []api.Sample{{Series: 15, Time: 0, Value: 2}, {Series: 0, Time: 0, Value: 1}}, "B\x01\x02\x01\x01\x00\x01\x10\x01\x00\x02\x00"},
		{"the least time", 1, 2, []api.Sample{{Time: math.MinInt}}, "B\x01\x02\x01\x01" + least + "\x00\x00"},
		{"the greatest time", 1, 2, []api.Sample{{Time: math.MaxInt}}, "B\x01\x02\x01\x01" + greatest + "\x00\x00"},
		{"both times", 1, 2, []api.Sample{{Time: math.MaxInt, Value: 3}, {Time: math.MinInt, Value: 1}}, "B\x01\x02\x01\x02" + least + "\x01" + least + "\x02\x00"},
		{"the greatest value", 1, 2, []api.Sample{{Time: -1, Value: math.MaxUint64}, {Time: 0, Value: math.MaxUint64}, {Time: 1, Value: 0}}, "B\x01\x02\x01\x03\x01" + least + "\x01\x00\x01" + least + "\x00"},
		{"a value begins anew in a series", 1, 2, []api.Sample{{Series: 0, Time: 9, Value: 5}, {Series: 1, Time: 8, Value: 5}}, "B\x01\x02\x01\x01\x12\x05\x02\x01\x10\x05\x00"},
	} {
		t.Run(c.why, func(t *testing.T) {
			wantBlock(t, c.lo, c.hi, c.list, sealed(c.body))
			wantSamples(t, sealed(c.body), c.lo, c.hi, laid(c.list))
		})
	}
}

func TestBlockAndSamplesAgainstTheModel(t *testing.T) {
	r := rand.New(rand.NewSource(1))
	for range 3000 {
		lo, hi := anyRange(r)
		list := anySamples(r, 40)
		file := modelFile(lo, hi, list)
		wantBlock(t, lo, hi, list, file)
		wantSamples(t, file, lo, hi, laid(list))
	}
}

func TestBlockOfManyEnds(t *testing.T) {
	var list []api.Sample
	for i := range 300000 {
		list = append(list, api.Sample{Series: i % 2, Time: -i / 3, Value: uint64(i)})
	}
	file := modelFile(5, 6, list)
	got, e := silo.Block(5, 6, list)
	if got != file || e != api.OK {
		t.Errorf("P1, P3: Block of many: %d bytes, %d, want %d bytes", len(got), e, len(file))
	}
	lo, hi, back, e := silo.Samples(file)
	if lo != 5 || hi != 6 || !slices.Equal(back, laid(list)) || e != api.OK {
		t.Errorf("P1, P3: Samples of many: %d, %d, %d samples, %d", lo, hi, len(back), e)
	}
}

func TestBlockErrors(t *testing.T) {
	bad := []api.Sample{{Series: 3, Time: 1, Value: 2}, {Series: 16}}
	for _, c := range []struct {
		lo, hi int
		list   []api.Sample
		want   api.Errno
	}{
		{-1, 0, nil, api.ErrCorrupt}, {-1, -1, nil, api.ErrCorrupt}, {1, 0, nil, api.ErrCorrupt}, {0, 1000000, nil, api.ErrCorrupt}, {1000000, 1000000, nil, api.ErrCorrupt},
		{math.MinInt, math.MaxInt, nil, api.ErrCorrupt}, {math.MaxInt, math.MinInt, nil, api.ErrCorrupt}, {0, math.MaxInt, nil, api.ErrCorrupt}, {math.MinInt, 0, nil, api.ErrCorrupt},
		{0, 0, bad, api.ErrBatch}, {0, 999999, []api.Sample{{Series: -1}}, api.ErrBatch}, {0, 0, []api.Sample{{Series: math.MinInt}}, api.ErrBatch}, {0, 0, []api.Sample{{Series: math.MaxInt}}, api.ErrBatch}, {0, 0, []api.Sample{{Series: 16}, {Series: 1}}, api.ErrBatch},
		// Both apply: the range is named first.
		{-1, 0, bad, api.ErrCorrupt}, {2, 1, bad, api.ErrCorrupt}, {0, 1000000, bad, api.ErrCorrupt},
	} {
		if got, e := silo.Block(c.lo, c.hi, c.list); got != "" || e != c.want {
			t.Errorf("P3, P1: Block(%d, %d, %v) = %x, %d, want error %d", c.lo, c.hi, c.list, got, e, c.want)
		}
	}
}

func TestSamplesOfWhatIsNoBlock(t *testing.T) {
	const greatest = "\xff\xff\xff\xff\xff\xff\xff\xff\xff\x01"
	for why, body := range map[string]string{
		"nothing":                         "",
		"no B":                            "C\x00\x00\x00",
		"a small b":                       "b\x00\x00\x00",
		"B alone":                         "B",
		"no hi":                           "B\x00",
		"no end":                          "B\x00\x00",
		"hi below lo":                     "B\x01\x00\x00",
		"lo 1000000":                      "B\xc0\x84\x3d\xc0\x84\x3d\x00",
		"hi 1000000":                      "B\x00\xc0\x84\x3d\x00",
		"lo the greatest uint64":          "B" + greatest + "\x00\x00",
		"hi the greatest uint64":          "B\x00" + greatest + "\x00",
		"lo in a long code":               "B\x80\x00\x01\x00",
		"hi in a long code":               "B\x00\x81\x00\x00",
		"the series in a long code":       "B\x00\x00\x81\x00\x01\x02\x03\x00",
		"the count in a long code":        "B\x00\x00\x01\x81\x00\x02\x03\x00",
		"the time in a long code":         "B\x00\x00\x01\x01\x82\x00\x03\x00",
		"the value in a long code":        "B\x00\x00\x01\x01\x02\x83\x00\x00",
		"the end in a long code":          "B\x00\x00\x01\x01\x02\x03\x80\x00",
		"a code without an end":           "B\x00\x80",
		"a code of eleven bytes":          "B\x00\x00\x01\x01\xff\xff\xff\xff\xff\xff\xff\xff\xff\xff\x01\x00\x00",
		"a code above 64 bits":            "B\x00\x00\x01\x01\xff\xff\xff\xff\xff\xff\xff\xff\xff\x02\x00\x00",
		"a byte behind the end":           "B\x00\x00\x00\x00",
		"a series behind the end":         "B\x00\x00\x00\x01\x01\x02\x03\x00",
		"series 16":                       "B\x00\x00\x11\x01\x02\x03\x00",
		"series as the greatest uint64":   "B\x00\x00" + greatest + "\x01\x02\x03\x00",
		"series fall":                     "B\x00\x00\x02\x01\x02\x03\x01\x01\x02\x03\x00",
		"a series twice":                  "B\x00\x00\x02\x01\x02\x03\x02\x01\x04\x03\x00",
		"a series without a count":        "B\x00\x00\x01",
		"a series of none":                "B\x00\x00\x01\x00\x00",
		"times stand":                     "B\x00\x00\x01\x02\x02\x03\x00\x03\x00",
		"times fall":                      "B\x00\x00\x01\x02\x02\x03" + greatest + "\x03\x00",
		"one above the greatest time":     "B\x00\x00\x01\x02\xfe\xff\xff\xff\xff\xff\xff\xff\xff\x01\x03\x01\x03\x00",
		"from 0 one above the greatest":   "B\x00\x00\x01\x02\x00\x03\x80\x80\x80\x80\x80\x80\x80\x80\x80\x01\x03\x00",
		"a third one above the greatest":  "B\x00\x00\x01\x03" + greatest + "\x03" + greatest + "\x03\x01\x03\x00",
		"no value":                        "B\x00\x00\x01\x01\x02",
		"no value of the second":          "B\x00\x00\x01\x02\x02\x03\x01",
		"fewer than it says":              "B\x00\x00\x01\x02\x02\x03\x00",
		"one fewer, then a series":        "B\x00\x00\x01\x02\x02\x03\x02\x01\x02\x03\x00",
		"more than it says":               "B\x00\x00\x01\x01\x02\x03\x01\x03\x00",
		"many that are not there":         "B\x00\x00\x01" + greatest + "\x02\x03\x00",
		"2^63 that are not there":         "B\x00\x00\x01\x80\x80\x80\x80\x80\x80\x80\x80\x80\x01\x02\x03\x00",
		"2^32 in all that are not there":  "B\x00\x00\x01\x80\x80\x80\x80\x10\x02\x03\x00",
		"many of a second that aren't so": "B\x00\x00\x01\x01\x02\x03\x02" + greatest + "\x02\x03\x00",
	} {
		wantCorrupt(t, why, sealed(body))
	}
}

func TestSamplesOfBytesCutTurnedOrTooLong(t *testing.T) {
	r := rand.New(rand.NewSource(2))
	for range 50 {
		lo, hi := anyRange(r)
		good := modelFile(lo, hi, anySamples(r, 8))
		for i := range len(good) {
			wantCorrupt(t, "cut at the end", good[:i])
			wantCorrupt(t, "cut at the beginning", good[i+1:])
			turned := []byte(good)
			turned[i] ^= 1 << r.Intn(8)
			wantCorrupt(t, "turned", string(turned))
			wantCorrupt(t, "a byte put in", good[:i]+"\x00"+good[i:])
		}
		for _, tail := range []string{"\x00", "\n", good, strings.Repeat("\x00", 9)} {
			wantCorrupt(t, "too long", good+tail)
		}
		wantCorrupt(t, "the hash's low byte first", lowFirst(good))
		body := good[:len(good)-8]
		wantCorrupt(t, "sealed without its end", sealed(body[:len(body)-1]))
		wantCorrupt(t, "sealed twice", sealed(good))
	}
}

func lowFirst(file string) string {
	hash := []byte(file[len(file)-8:])
	slices.Reverse(hash)
	return file[:len(file)-8] + string(hash)
}

// wantJustFiles: a block has just one file, so bytes that are read as one must
// be those that the model writes of what was read.
func wantJustFiles(t *testing.T, file string) {
	t.Helper()
	lo, hi, list, e := silo.Samples(file)
	if e != api.OK {
		wantCorrupt(t, "an error", file)
		return
	}
	if lo < 0 || hi < lo || hi > api.MaxNumber || modelFile(lo, hi, list) != file || !slices.Equal(list, laid(list)) {
		t.Errorf("P3: Samples(%x) = %d, %d, %v, but this is not their file", file, lo, hi, list)
	}
}

// TestSamplesOfTurnedBytesWithARightHash gets past the hash to all the rest.
func TestSamplesOfTurnedBytesWithARightHash(t *testing.T) {
	r := rand.New(rand.NewSource(3))
	some := []byte{0, 1, 2, 3, 16, 17, 127, 128, 129, 254, 255}
	for range 300 {
		lo, hi := anyRange(r)
		good := modelFile(lo, hi, anySamples(r, 6))
		body := good[:len(good)-8]
		for i := range len(body) {
			for _, b := range some {
				wantJustFiles(t, sealed(body[:i]+string([]byte{b})+body[i+1:]))
				wantJustFiles(t, sealed(body[:i]+string([]byte{b})+body[i:]))
			}
			wantCorrupt(t, "cut, with a right hash", sealed(body[:i]))
			wantJustFiles(t, sealed(body[:i]+body[i+1:]))
			wantCorrupt(t, "too long, with a right hash", sealed(body+body[i:]))
		}
	}
}

func TestSamplesOfAnyShortBodies(t *testing.T) {
	some := "\x00\x01\x02\x03\x7f\x80\xff"
	var grow func(body string)
	grow = func(body string) {
		wantJustFiles(t, sealed(body))
		wantJustFiles(t, body)
		if len(body) == 7 {
			return
		}
		for i := range len(some) {
			grow(body + some[i:i+1])
		}
	}
	grow("B\x00")
}

func FuzzSamples(f *testing.F) {
	f.Add("B\x00\x03\x03\x02\x08\x07\x01\x01\x00")
	f.Add("B\x00\x00\x01\xff\xff\xff\xff\xff\xff\xff\xff\xff\x01\x02\x03\x00")
	f.Fuzz(func(t *testing.T, body string) {
		wantJustFiles(t, body)
		wantJustFiles(t, sealed(body))
	})
}
