package sets

import (
	"math"
	"slices"
	"testing"

	"silo/api"
)

func lay(s *Set, list ...api.Sample) { s.Lay(slices.Values(list)) }

func wantPoints(t *testing.T, s *Set, series int, want ...api.Point) {
	t.Helper()
	line := s.Line(series)
	got := slices.Collect(line.Points())
	if !slices.Equal(got, want) || line.Count() != len(want) {
		t.Errorf("series %d has %d: %v, want %v", series, line.Count(), got, want)
	}
}

func TestEmptySet(t *testing.T) {
	var s Set
	lay(&s)
	for series := range api.MaxSeries {
		wantPoints(t, &s, series)
	}
	if !s.Empty() {
		t.Error("the empty set is not empty")
	}
}

func TestASampleOfAnySeriesIsSomething(t *testing.T) {
	for series := range api.MaxSeries {
		var s Set
		lay(&s, api.Sample{Series: series})
		if s.Empty() {
			t.Errorf("a set with a sample of series %d is empty", series)
		}
	}
}

func TestLayPutsInTheLastOfATime(t *testing.T) {
	var s Set
	s.Lay(slices.Values([]api.Sample{{Series: 2, Time: 5, Value: 7}, {Series: 2, Time: 4, Value: 9}, {Series: 2, Time: 5, Value: 6}, {Series: 3, Time: 5, Value: 1}}))
	wantPoints(t, &s, 2, api.Point{Time: 4, Value: 9}, api.Point{Time: 5, Value: 6})
	wantPoints(t, &s, 3, api.Point{Time: 5, Value: 1})
	s.Lay(slices.Values([]api.Sample{{Series: 2, Time: 4, Value: 0}, {Series: 2, Time: math.MinInt, Value: 3}, {Series: 2, Time: math.MaxInt, Value: 8}}))
	wantPoints(t, &s, 2, api.Point{Time: math.MinInt, Value: 3}, api.Point{Time: 4, Value: 0}, api.Point{Time: 5, Value: 6}, api.Point{Time: math.MaxInt, Value: 8})
	wantPoints(t, &s, 3, api.Point{Time: 5, Value: 1})
}

func TestLayOfManyAtOneTime(t *testing.T) {
	var s Set
	var list []api.Sample
	for i := range 1000 {
		list = append(list, api.Sample{Series: 1, Time: 3 - i%3, Value: uint64(i)})
	}
	lay(&s, list...)
	wantPoints(t, &s, 1, api.Point{Time: 1, Value: 998}, api.Point{Time: 2, Value: 997}, api.Point{Time: 3, Value: 999})
}

func TestLayKeepsNothingOfTheList(t *testing.T) {
	var s Set
	list := []api.Sample{{Series: 1, Time: 2, Value: 3}, {Series: 1, Time: 1, Value: 3}}
	before := slices.Clone(list)
	lay(&s, list...)
	if !slices.Equal(list, before) {
		t.Errorf("the list behind Lay: %v", list)
	}
	clear(list)
	wantPoints(t, &s, 1, api.Point{Time: 1, Value: 3}, api.Point{Time: 2, Value: 3})
}

func TestFits(t *testing.T) {
	if !Fits(nil) || !Fits([]api.Sample{{Series: 0}, {Series: 15}}) {
		t.Error("samples that fit do not")
	}
	for _, series := range []int{-1, 16, math.MinInt, math.MaxInt} {
		if Fits([]api.Sample{{Series: 0}, {Series: series}}) {
			t.Errorf("series %d fits", series)
		}
	}
}

func TestPointsStopsWhenTold(t *testing.T) {
	var s Set
	s.Lay(slices.Values([]api.Sample{{Time: 1}, {Time: 2}, {Time: 3}}))
	seen := 0
	for range s.Line(0).Points() {
		seen++
		break
	}
	if seen != 1 {
		t.Errorf("%d points behind the stop", seen)
	}
}
