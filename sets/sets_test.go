package sets

import (
	"math"
	"slices"
	"testing"

	"silo/api"
)

func lay(s *Set, list ...api.Sample) { s.Lay(slices.Values(list)) }

func wantPoints(t *testing.T, s *Set, series int, want ...api.Point) {
	t.Helper()
	line := s.Line(series)
	got := slices.Collect(line.Points())
	if !slices.Equal(got, want) || line.Count() != len(want) {
		t.Errorf("series %d has %d: %v, want %v", series, line.Count(), got, want)
	}
}

func TestEmptySet(t *testing.T) {
	var s Set
	lay(&s)
	for series := range api.MaxSeries {
		wantPoints(t, &s, series)
	}
	if !s.Empty() {
		t.Error("the empty set is not empty")
	}
}

func TestASampleOfAnySeriesIsSomething(t *testing.T) {
	for series := range api.MaxSeries {
		var s Set
		lay(&s, api.Sample{Series: series})
		if s.Empty() {
			t.Errorf("a set with a sample of series %d is empty", series)
		}
	}
}

func TestLayPutsInTheLastOfATime(t *testing.T) {
	var s Set
	s.Lay(slices.Values([]api.Sample{{Series: 2, Time: 5, Value: 7}, {Series: 2, Time: 4, Value: 9}, {Series: 2, Time: 5, Value: 6}, {Series: 3, Time: 5, Value: 1}}))
	wantPoints(t, &s, 2, api.Point{Time: 4, Value: 9}, api.Point{Time: 5, Value: 6})
	wantPoints(t, &s, 3, api.Point{Time: 5, Value: 1})
	s.Lay(slices.Values([]api.Sample{{Series: 2, Time: 4, Value: 0}, {Series: 2, Time: math.MinInt, Value: 3}, {Series: 2, Time: math.MaxInt, Value: 8}}))
	wantPoints(t, &s, 2, api.Point{Time: math.MinInt, Value: 3}, api.Point{Time: 4, Value: 0}, api.Point{Time: 5, Value: 6}, api.Point{Time: math.MaxInt, Value: 8})
	wantPoints(t, &s, 3, api.Point{Time: 5, Value: 1})
}

func TestLayOfManyAtOneTime(t *testing.T) {
	var s Set
	var list []api.Sample
	for i := range 1000 {
		list = append(list, api.Sample{Series: 1, Time: 3 - i%3, Value: uint64(i)})
	}
	lay(&s, list...)
	wantPoints(t, &s, 1, api.Point{Time: 1, Value: 998}, api.Point{Time: 2, Value: 997}, api.Point{Time: 3, Value: 999})
}

func TestLayKeepsNothingOfTheList(t *testing.T) {
	var s Set
	list := []api.Sample{{Series: 1, Time: 2, Value: 3}, {Series: 1, Time: 1, Value: 3}}
	before := slices.Clone(list)
	lay(&s, list...)
	if !slices.Equal(list, before) {
		t.Errorf("the list behind Lay: %v", list)
	}
	clear(list)
	wantPoints(t, &s, 1, api.Point{Time: 1, Value: 3}, api.Point{Time: 2, Value: 3})
}

func TestFits(t *testing.T) {
	if !Fits(nil) || !Fits([]api.Sample{{Series: 0}, {Series: 15}}) {
		t.Error("samples that fit do not")
	}
	for _, series := range []int{-1, 16, math.MinInt, math.MaxInt} {
		if Fits([]api.Sample{{Series: 0}, {Series: series}}) {
			t.Errorf("series %d fits", series)
		}
	}
}

func TestPointsStopsWhenTold(t *testing.T) {
	var s Set
	s.Lay(slices.Values([]api.Sample{{Time: 1}, {Time: 2}, {Time: 3}}))
	seen := 0
	for range s.Line(0).Points() {
		seen++
		break
	}
	if seen != 1 {
		t.Errorf("%d points behind the stop", seen)
	}
}

func TestSamples(t *testing.T) {
	list := []api.Sample{{Series: 0, Time: math.MinInt, Value: 1}, {Series: 0, Time: 2, Value: 3}, {Series: 4, Time: -1, Value: 0}, {Series: 15, Time: 9, Value: math.MaxUint64}}
	var s Set
	if got := slices.Collect(s.Samples()); len(got) != 0 {
		t.Errorf("the empty set has %v", got)
	}
	lay(&s, list[3], list[1], list[2], list[0])
	if got := slices.Collect(s.Samples()); !slices.Equal(got, list) {
		t.Errorf("%v, want %v", got, list)
	}
	for most := 1; most <= len(list); most++ {
		var seen []api.Sample
		for sample := range s.Samples() {
			if seen = append(seen, sample); len(seen) == most {
				break
			}
		}
		if !slices.Equal(seen, list[:most]) {
			t.Errorf("%d of Samples: %v", most, seen)
		}
	}
}

// TestSetsLaidOnOneAnother: the lower one stays as it is.
func TestSetsLaidOnOneAnother(t *testing.T) {
	var lower, upper, both Set
	lay(&lower, api.Sample{Series: 1, Time: 1, Value: 1}, api.Sample{Series: 1, Time: 2, Value: 1})
	lay(&upper, api.Sample{Series: 1, Time: 2, Value: 2}, api.Sample{Series: 2, Time: 0, Value: 2})
	both.Lay(lower.Samples())
	both.Lay(upper.Samples())
	wantPoints(t, &both, 1, api.Point{Time: 1, Value: 1}, api.Point{Time: 2, Value: 2})
	wantPoints(t, &both, 2, api.Point{Time: 0, Value: 2})
	lay(&both, api.Sample{Series: 1, Time: 1, Value: 9})
	wantPoints(t, &lower, 1, api.Point{Time: 1, Value: 1}, api.Point{Time: 2, Value: 1})
	wantPoints(t, &upper, 1, api.Point{Time: 2, Value: 2})
}
