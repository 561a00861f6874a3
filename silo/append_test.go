package silo_test

import (
	"fmt"
	"math"
	"slices"
	"testing"

	"silo/api"
)

func blockName(number int) string { return fmt.Sprintf("b%d.%d", number, number) }

func TestAppendErrors(t *testing.T) {
	e := open(t, quiet)
	good := api.Sample{Series: 15, Time: 1, Value: 1}
	for _, batch := range [][]api.Sample{
		nil, {}, make([]api.Sample, 9), make([]api.Sample, 1000),
		{{Series: -1}}, {{Series: 16}}, {{Series: least}}, {{Series: greatest}}, {good, {Series: 16}}, {{Series: -1}, good}, {good, good, good, good, good, good, good, {Series: 99}},
		append(make([]api.Sample, 9), api.Sample{Series: 16}),
	} {
		before := slices.Clone(batch)
		wantRefused(t, "P5", api.ErrBatch)(e.Append(batch))
		if !slices.Equal(batch, before) {
			t.Errorf("P2: Append wrote into what it refused: %v", batch)
		}
	}
	wantNoMachine(t, e, 0, 1)
	wantFiles(t, "refused", e, "w0", "")
	wantQuery(t, e, 15, least, greatest)
	wantBegun(t, 1)(e.Append([]api.Sample{good}))
}

func TestAppendStepByStep(t *testing.T) {
	const minus, high = "\xff\xff\xff\xff\xff\xff\xff\xff\xff\x01", "\xfe\xff\xff\xff\xff\xff\xff\xff\xff\x01"
	for why, c := range map[string]struct {
		batch   []api.Sample
		payload string
		want    []api.Point // of series 3
	}{
		"one sample":         {[]api.Sample{{Series: 3, Time: 10, Value: 20}}, "\x03\x14\x14", []api.Point{{Time: 10, Value: 20}}},
		"times below 0":      {[]api.Sample{{Series: 3, Time: -1, Value: 300}, {Series: 3, Time: -64, Value: 0}}, "\x03\x01\xac\x02\x03\x7f\x00", []api.Point{{Time: -64, Value: 0}, {Time: -1, Value: 300}}},
		"the least time":     {[]api.Sample{{Series: 3, Time: least, Value: math.MaxUint64}}, "\x03" + minus + minus, []api.Point{{Time: least, Value: math.MaxUint64}}},
		"the greatest time":  {[]api.Sample{{Series: 3, Time: greatest, Value: 1}, {Series: 3, Time: least, Value: 2}}, "\x03" + high + "\x01\x03" + minus + "\x02", []api.Point{{Time: least, Value: 2}, {Time: greatest, Value: 1}}},
		"a time twice":       {[]api.Sample{{Series: 3, Time: 5, Value: 1}, {Series: 3, Time: 4, Value: 2}, {Series: 3, Time: 5, Value: 3}}, "\x03\x0a\x01\x03\x08\x02\x03\x0a\x03", []api.Point{{Time: 4, Value: 2}, {Time: 5, Value: 3}}},
		"other series":       {[]api.Sample{{Series: 0, Time: 0, Value: 0}, {Series: 15, Time: 0, Value: 9}}, "\x00\x00\x00\x0f\x00\x09", nil},
		"eight of one place": {slices.Repeat([]api.Sample{{Series: 3, Time: 1, Value: 1}}, 8), "\x03\x02\x01\x03\x02\x01\x03\x02\x01\x03\x02\x01\x03\x02\x01\x03\x02\x01\x03\x02\x01\x03\x02\x01", []api.Point{{Time: 1, Value: 1}}},
	} {
		t.Run(why, func(t *testing.T) {
			e := open(t, quiet)
			wantBegun(t, 1)(e.Append(c.batch))
			wantFiles(t, "not moved", e, "w0", "")
			wantQuery(t, e, 3, least, greatest)
			frame := sealed("F" + string(rune(len(c.payload))) + c.payload)
			wantMove(t, e, 1, false)
			wantFiles(t, "step 1", e, "w0", frame)
			wantQuery(t, e, 3, least, greatest, c.want...)
			wantMove(t, e, 1, true)
			wantFiles(t, "step 2", e, "w0", frame)
			wantQuery(t, e, 3, least, greatest, c.want...)
			wantNoMachine(t, e, 1)
		})
	}
}

func TestFrameOfALongPayload(t *testing.T) {
	batch := slices.Repeat([]api.Sample{{Series: 15, Time: least, Value: math.MaxUint64}}, 8)
	e := open(t, quiet)
	put(t, e, batch...)
	wantFiles(t, "168 bytes of payload", e, "w0", modelFrame(batch))
	if file := e.Files()[0].Data; file[:3] != "F\xa8\x01" || len(file) != 3+168+8 {
		t.Errorf("P5: the frame is %x", file)
	}
}

// TestAppendsInAnyOrder: the order of the first steps counts, not that in
// which they were begun or ended.
func TestAppendsInAnyOrder(t *testing.T) {
	e := open(t, quiet)
	batch := func(value uint64) []api.Sample { return []api.Sample{{Series: 1, Time: 1, Value: value}} }
	for i := 1; i <= 3; i++ {
		wantBegun(t, i)(e.Append(batch(uint64(i))))
	}
	wantMove(t, e, 3, false)
	wantQuery(t, e, 1, 1, 1, api.Point{Time: 1, Value: 3})
	wantMove(t, e, 1, false)
	wantQuery(t, e, 1, 1, 1, api.Point{Time: 1, Value: 1})
	wantMove(t, e, 3, true)
	wantMove(t, e, 2, false)
	wantQuery(t, e, 1, 1, 1, api.Point{Time: 1, Value: 2})
	wantFiles(t, "three frames", e, "w0", modelFrame(batch(3))+modelFrame(batch(1))+modelFrame(batch(2)))
	wantMove(t, e, 2, true)
	wantMove(t, e, 1, true)
	wantQuery(t, e, 1, 1, 1, api.Point{Time: 1, Value: 2})
}

func TestAppendNeitherWritesNorKeeps(t *testing.T) {
	e := open(t, quiet)
	whole := []api.Sample{{Series: 1, Time: 2, Value: 3}, {Series: 1, Time: 1, Value: 3}, {Series: 4, Time: 4, Value: 4}}
	before := slices.Clone(whole)
	wantBegun(t, 1)(e.Append(whole[:2]))
	whole[0] = api.Sample{Series: 99}
	wantMove(t, e, 1, false)
	if whole[0] != (api.Sample{Series: 99}) || !slices.Equal(whole[1:], before[1:]) {
		t.Errorf("P2: the list behind Append and Move: %v", whole)
	}
	clear(whole)
	wantMove(t, e, 1, true)
	wantFiles(t, "as it was handed in", e, "w0", modelFrame(before[:2]))
	wantQuery(t, e, 1, least, greatest, api.Point{Time: 1, Value: 3}, api.Point{Time: 2, Value: 3})
}
