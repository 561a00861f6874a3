package blocks

import (
	"math"
	"slices"
	"testing"

	"silo/api"
	"silo/codes"
	"silo/sets"
)

func TestIsRange(t *testing.T) {
	for _, c := range []struct {
		lo, hi int
		want   bool
	}{
		{0, 0, true}, {0, 999999, true}, {999999, 999999, true}, {3, 4, true},
		{-1, 0, false}, {-2, -1, false}, {1, 0, false}, {0, 1000000, false}, {1000000, 1000000, false}, {math.MinInt, math.MaxInt, false}, {math.MaxInt, math.MinInt, false},
	} {
		if got := IsRange(c.lo, c.hi); got != c.want {
			t.Errorf("IsRange(%d, %d) = %t", c.lo, c.hi, got)
		}
	}
}

func TestEncodeThenDecode(t *testing.T) {
	list := []api.Sample{{Series: 0, Time: math.MinInt, Value: math.MaxUint64}, {Series: 0, Time: math.MaxInt, Value: 0}, {Series: 15, Time: 0, Value: 1}}
	var set sets.Set
	set.Lay(slices.Values(list))
	lo, hi, got, ok := Decode(Encode(7, 8, &set))
	if lo != 7 || hi != 8 || !slices.Equal(got, list) || !ok {
		t.Errorf("Decode: %d, %d, %v, %t", lo, hi, got, ok)
	}
}

func TestReadSamplesStopsWhenTold(t *testing.T) {
	r := codes.NewReader("\x01\x02\x02\x03\x01\x04\x02\x01\x02\x03\x00")
	seen := 0
	for range readSamples(r) {
		seen++
		break
	}
	if seen != 1 || r.Left() != 7 || r.Failed() {
		t.Errorf("%d samples behind the stop, %d bytes left, failed %t", seen, r.Left(), r.Failed())
	}
}

func TestReadSamplesStopsAtWhatIsWrong(t *testing.T) {
	r := codes.NewReader("\x01\x02\x02\x03\x00\x04\x02\x01\x02\x03\x00")
	got := slices.Collect(readSamples(r))
	if !slices.Equal(got, []api.Sample{{Series: 0, Time: 1, Value: 3}}) || !r.Failed() {
		t.Errorf("%v ahead of a time that stands, failed %t", got, r.Failed())
	}
}

func TestName(t *testing.T) {
	for want, c := range map[string][2]int{"b0.0": {0, 0}, "b3.10": {3, 10}, "b999999.999999": {999999, 999999}} {
		if got := Name(c[0], c[1]); got != want {
			t.Errorf("Name(%d, %d) = %q, want %q", c[0], c[1], got, want)
		}
	}
}

func TestBetween(t *testing.T) {
	list := []api.Sample{{Series: 1, Time: 9, Value: 1}, {Series: 2, Time: math.MinInt, Value: 2}, {Series: 2, Time: -1, Value: 3}, {Series: 2, Time: 4, Value: 4}, {Series: 2, Time: math.MaxInt, Value: 5}, {Series: 3, Time: 0, Value: 6}}
	var set sets.Set
	set.Lay(slices.Values(list))
	for _, file := range []string{Encode(0, 0, &set), Encode(300, 999999, &set)} {
		for series := range api.MaxSeries {
			for _, from := range []int{math.MinInt, math.MinInt + 1, -1, 0, 4, 5, math.MaxInt} {
				for _, to := range []int{math.MinInt, -2, -1, 0, 4, 9, math.MaxInt - 1, math.MaxInt} {
					var want []api.Point
					for _, x := range list {
						if x.Series == series && from <= x.Time && x.Time <= to {
							want = append(want, api.Point{Time: x.Time, Value: x.Value})
						}
					}
					if got := slices.Collect(Between(file, series, from, to)); !slices.Equal(got, want) {
						t.Errorf("Between(%d, %d, %d) = %v, want %v", series, from, to, got, want)
					}
				}
			}
		}
	}
}

func TestBetweenStopsWhenTold(t *testing.T) {
	var set sets.Set
	set.Lay(slices.Values([]api.Sample{{Time: 1}, {Time: 2}, {Time: 3}}))
	for point := range Between(Encode(0, 0, &set), 0, 2, 9) {
		if point.Time != 2 {
			t.Errorf("it goes on to %v", point)
		}
		break
	}
}
