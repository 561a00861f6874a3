package sets

import (
	"math"
	"slices"
	"testing"

	"silo/api"
)

func wantPoints(t *testing.T, s *Set, series int, want ...api.Point) {
	t.Helper()
	got := slices.Collect(s.Points(series))
	if !slices.Equal(got, want) || s.Count(series) != len(want) {
		t.Errorf("series %d has %d: %v, want %v", series, s.Count(series), got, want)
	}
}

func TestEmptySet(t *testing.T) {
	var s Set
	s.Lay(nil)
	for series := range api.MaxSeries {
		wantPoints(t, &s, series)
	}
}

func TestLayPutsInTheLastOfATime(t *testing.T) {
	var s Set
	s.Lay([]api.Sample{{Series: 2, Time: 5, Value: 7}, {Series: 2, Time: 4, Value: 9}, {Series: 2, Time: 5, Value: 6}, {Series: 3, Time: 5, Value: 1}})
	wantPoints(t, &s, 2, api.Point{Time: 4, Value: 9}, api.Point{Time: 5, Value: 6})
	wantPoints(t, &s, 3, api.Point{Time: 5, Value: 1})
	s.Lay([]api.Sample{{Series: 2, Time: 4, Value: 0}, {Series: 2, Time: math.MinInt, Value: 3}, {Series: 2, Time: math.MaxInt, Value: 8}})
	wantPoints(t, &s, 2, api.Point{Time: math.MinInt, Value: 3}, api.Point{Time: 4, Value: 0}, api.Point{Time: 5, Value: 6}, api.Point{Time: math.MaxInt, Value: 8})
	wantPoints(t, &s, 3, api.Point{Time: 5, Value: 1})
}

func TestLayOfManyAtOneTime(t *testing.T) {
	var s Set
	var list []api.Sample
	for i := range 1000 {
		list = append(list, api.Sample{Series: 1, Time: 3 - i%3, Value: uint64(i)})
	}
	s.Lay(list)
	wantPoints(t, &s, 1, api.Point{Time: 1, Value: 998}, api.Point{Time: 2, Value: 997}, api.Point{Time: 3, Value: 999})
}

func TestLayKeepsNothingOfTheList(t *testing.T) {
	var s Set
	list := []api.Sample{{Series: 1, Time: 2, Value: 3}, {Series: 1, Time: 1, Value: 3}}
	before := slices.Clone(list)
	s.Lay(list)
	if !slices.Equal(list, before) {
		t.Errorf("the list behind Lay: %v", list)
	}
	clear(list)
	wantPoints(t, &s, 1, api.Point{Time: 1, Value: 3}, api.Point{Time: 2, Value: 3})
}

func TestFits(t *testing.T) {
	if !Fits(nil) || !Fits([]api.Sample{{Series: 0}, {Series: 15}}) {
		t.Error("samples that fit do not")
	}
	for _, series := range []int{-1, 16, math.MinInt, math.MaxInt} {
		if Fits([]api.Sample{{Series: 0}, {Series: series}}) {
			t.Errorf("series %d fits", series)
		}
	}
}

func TestPointsStopsWhenTold(t *testing.T) {
	var s Set
	s.Lay([]api.Sample{{Time: 1}, {Time: 2}, {Time: 3}})
	seen := 0
	for range s.Points(0) {
		seen++
		break
	}
	if seen != 1 {
		t.Errorf("%d points behind the stop", seen)
	}
}
