package sets

import (
	"maps"
	"math"
	"math/rand"
	"slices"
	"testing"

	"silo/api"
)

func points(line *Line) []api.Point { return slices.Collect(line.Points()) }

// ruled: a line's points, by a map.
func ruled(values map[int]uint64) []api.Point {
	var out []api.Point
	for _, time := range slices.Sorted(maps.Keys(values)) {
		out = append(out, api.Point{Time: time, Value: values[time]})
	}
	return out
}

func TestLayAgainstAMap(t *testing.T) {
	r := rand.New(rand.NewSource(1))
	for range 300 {
		var line Line
		values := map[int]uint64{}
		span := 1 + r.Intn(60)
		for range r.Intn(12) {
			var list []api.Point
			for range r.Intn(10) {
				point := api.Point{Time: r.Intn(span) - span/2, Value: r.Uint64()}
				list = append(list, point)
				values[point.Time] = point.Value
			}
			line.Lay(slices.Values(list))
			if got, want := points(&line), ruled(values); !slices.Equal(got, want) || line.Count() != len(want) {
				t.Fatalf("behind laying %v: %v, want %v", list, got, want)
			}
		}
	}
}

func TestLayBesideWhatIsThere(t *testing.T) {
	one := []api.Point{{Time: 2, Value: 20}, {Time: 4, Value: 40}}
	for _, c := range []struct {
		why         string
		upper, want []api.Point
	}{
		{"nothing", nil, one},
		{"ahead", []api.Point{{Time: 1, Value: 1}}, []api.Point{{Time: 1, Value: 1}, {Time: 2, Value: 20}, {Time: 4, Value: 40}}},
		{"on the first", []api.Point{{Time: 2, Value: 1}}, []api.Point{{Time: 2, Value: 1}, {Time: 4, Value: 40}}},
		{"between", []api.Point{{Time: 3, Value: 1}}, []api.Point{{Time: 2, Value: 20}, {Time: 3, Value: 1}, {Time: 4, Value: 40}}},
		{"on the last", []api.Point{{Time: 4, Value: 0}}, []api.Point{{Time: 2, Value: 20}, {Time: 4, Value: 0}}},
		{"behind", []api.Point{{Time: 5, Value: 1}}, []api.Point{{Time: 2, Value: 20}, {Time: 4, Value: 40}, {Time: 5, Value: 1}}},
		{"on all, falling", []api.Point{{Time: 4, Value: 2}, {Time: 2, Value: 1}}, []api.Point{{Time: 2, Value: 1}, {Time: 4, Value: 2}}},
	} {
		var line Line
		line.Lay(slices.Values(one))
		line.Lay(slices.Values(c.upper))
		if got := points(&line); !slices.Equal(got, c.want) {
			t.Errorf("%s: %v, want %v", c.why, got, c.want)
		}
	}
}

func TestBetween(t *testing.T) {
	all := []api.Point{{Time: math.MinInt, Value: 1}, {Time: -1, Value: 2}, {Time: 3, Value: 3}, {Time: math.MaxInt, Value: 4}}
	var line Line
	line.Lay(slices.Values(all))
	for _, c := range []struct {
		from, to int
		want     []api.Point
	}{
		{math.MinInt, math.MaxInt, all}, {math.MinInt, math.MinInt, all[:1]}, {math.MaxInt, math.MaxInt, all[3:]},
		{math.MinInt + 1, math.MaxInt - 1, all[1:3]}, {-1, 3, all[1:3]}, {0, 3, all[2:3]}, {-1, 2, all[1:2]}, {0, 2, nil}, {3, 3, all[2:3]},
		{3, -1, nil}, {math.MaxInt, math.MinInt, nil}, {4, 3, nil},
	} {
		if got := slices.Collect(line.Between(c.from, c.to)); !slices.Equal(got, c.want) {
			t.Errorf("Between(%d, %d) = %v, want %v", c.from, c.to, got, c.want)
		}
	}
	var none Line
	if got := slices.Collect(none.Between(math.MinInt, math.MaxInt)); len(got) != 0 {
		t.Errorf("an empty line has %v", got)
	}
}

// TestIteratorsStop: one that went on behind the stop would panic.
func TestIteratorsStop(t *testing.T) {
	lower := []api.Point{{Time: 1}, {Time: 3}, {Time: 5}, {Time: 6}}
	upper := []api.Point{{Time: 2}, {Time: 3, Value: 1}}
	all := slices.Collect(layered(lower, upper))
	for most := 1; most <= len(all); most++ {
		var seen []api.Point
		for point := range layered(lower, upper) {
			if seen = append(seen, point); len(seen) == most {
				break
			}
		}
		if !slices.Equal(seen, all[:most]) {
			t.Errorf("%d of layered: %v", most, seen)
		}
	}
	var line Line
	line.Lay(slices.Values(lower))
	for point := range line.Between(2, 9) {
		if point.Time != 3 {
			t.Errorf("Between goes on to %v", point)
		}
		break
	}
}

// TestLayOfManyBatchesEnds: with the whole put in order at each batch, it
// would not, within the tests' time.
func TestLayOfManyBatchesEnds(t *testing.T) {
	const batches, size = 50000, 8
	var rising Line
	for i := range batches {
		var list []api.Point
		for k := range size {
			list = append(list, api.Point{Time: i*size + k})
		}
		rising.Lay(slices.Values(list))
	}
	if rising.Count() != batches*size {
		t.Errorf("%d points", rising.Count())
	}
}
