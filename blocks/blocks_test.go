package blocks

import (
	"math"
	"slices"
	"testing"

	"silo/api"
	"silo/codes"
	"silo/sets"
)

func TestEncodeThenDecode(t *testing.T) {
	list := []api.Sample{{Series: 0, Time: math.MinInt, Value: math.MaxUint64}, {Series: 0, Time: math.MaxInt, Value: 0}, {Series: 15, Time: 0, Value: 1}}
	var set sets.Set
	set.Lay(slices.Values(list))
	r, got, ok := Decode(Encode(Range{7, 8}, &set))
	if r != (Range{7, 8}) || !slices.Equal(got, list) || !ok {
		t.Errorf("Decode: %v, %v, %t", r, got, ok)
	}
}

func TestReadSamplesStopsWhenTold(t *testing.T) {
	r := codes.NewReader("\x01\x02\x02\x03\x01\x04\x02\x01\x02\x03\x00")
	seen := 0
	for range readSamples(r) {
		seen++
		break
	}
	if seen != 1 || r.Left() != 7 || r.Failed() {
		t.Errorf("%d samples behind the stop, %d bytes left, failed %t", seen, r.Left(), r.Failed())
	}
}

func TestReadSamplesStopsAtWhatIsWrong(t *testing.T) {
	r := codes.NewReader("\x01\x02\x02\x03\x00\x04\x02\x01\x02\x03\x00")
	got := slices.Collect(readSamples(r))
	if !slices.Equal(got, []api.Sample{{Series: 0, Time: 1, Value: 3}}) || !r.Failed() {
		t.Errorf("%v ahead of a time that stands, failed %t", got, r.Failed())
	}
}

func TestIsFile(t *testing.T) {
	file := Encode(Range{3, 5}, &sets.Set{})
	for _, r := range []Range{{3, 5}, {3, 4}, {2, 5}, {0, 0}, {5, 3}} {
		if got := IsFile(r, file); got != (r == Range{3, 5}) {
			t.Errorf("IsFile(%v) = %t", r, got)
		}
		if IsFile(r, file[1:]) || IsFile(r, "") || IsFile(r, file+"x") {
			t.Errorf("%v: other bytes are a file", r)
		}
	}
}

func TestSamples(t *testing.T) {
	list := []api.Sample{{Series: 0, Time: math.MinInt, Value: 1}, {Series: 0, Time: 2, Value: math.MaxUint64}, {Series: 7, Time: 2, Value: 0}, {Series: 15, Time: math.MaxInt, Value: 5}}
	for most := range len(list) + 1 {
		var set sets.Set
		set.Lay(slices.Values(list[:most]))
		file := Encode(Range{300, 999999}, &set)
		if got := slices.Collect(Samples(file)); !slices.Equal(got, list[:most]) {
			t.Errorf("%v, want %v", got, list[:most])
		}
		for sample := range Samples(file) {
			if sample != list[0] {
				t.Errorf("it goes on to %v", sample)
			}
			break
		}
	}
}

func TestBetween(t *testing.T) {
	list := []api.Sample{{Series: 1, Time: 9, Value: 1}, {Series: 2, Time: math.MinInt, Value: 2}, {Series: 2, Time: -1, Value: 3}, {Series: 2, Time: 4, Value: 4}, {Series: 2, Time: math.MaxInt, Value: 5}, {Series: 3, Time: 0, Value: 6}}
	var set sets.Set
	set.Lay(slices.Values(list))
	for _, file := range []string{Encode(Range{0, 0}, &set), Encode(Range{300, 999999}, &set)} {
		for series := range api.MaxSeries {
			for _, from := range []int{math.MinInt, math.MinInt + 1, -1, 0, 4, 5, math.MaxInt} {
				for _, to := range []int{math.MinInt, -2, -1, 0, 4, 9, math.MaxInt - 1, math.MaxInt} {
					var want []api.Point
					for _, x := range list {
						if x.Series == series && from <= x.Time && x.Time <= to {
							want = append(want, api.Point{Time: x.Time, Value: x.Value})
						}
					}
					if got := slices.Collect(Between(file, series, from, to)); !slices.Equal(got, want) {
						t.Errorf("Between(%d, %d, %d) = %v, want %v", series, from, to, got, want)
					}
				}
			}
		}
	}
}

func TestBetweenStopsWhenTold(t *testing.T) {
	var set sets.Set
	set.Lay(slices.Values([]api.Sample{{Time: 1}, {Time: 2}, {Time: 3}}))
	for point := range Between(Encode(Range{0, 0}, &set), 0, 2, 9) {
		if point.Time != 2 {
			t.Errorf("it goes on to %v", point)
		}
		break
	}
}
