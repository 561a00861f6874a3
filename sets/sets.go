// Package sets: samples, at most one of a series at a time.
package sets

import (
	"cmp"
	"iter"
	"slices"

	"silo/api"
)

// Set is a set of samples. Its zero value is the empty one.
type Set struct {
	// For each series in rising order of times, no time twice.
	points [api.MaxSeries][]api.Point
}

// Fits tells whether every sample has a series that may be.
func Fits(samples []api.Sample) bool {
	for _, sample := range samples {
		if sample.Series < 0 || sample.Series >= api.MaxSeries {
			return false
		}
	}
	return true
}

// Lay lays samples on the set, in their order. They must fit.
func (s *Set) Lay(samples []api.Sample) {
	for _, sample := range samples {
		point := api.Point{Time: sample.Time, Value: sample.Value}
		s.points[sample.Series] = append(s.points[sample.Series], point)
	}
	for series, points := range s.points {
		s.points[series] = settled(points)
	}
}

// settled puts points in rising order of times and keeps, of those at one
// time, the one that was laid last. It works in the memory of what it is given.
func settled(points []api.Point) []api.Point {
	// Stable, as the order among those at one time says which was laid last.
	slices.SortStableFunc(points, byTime)
	kept := points[:0]
	for i, point := range points {
		if i+1 < len(points) && points[i+1].Time == point.Time {
			continue
		}
		kept = append(kept, point)
	}
	return kept
}

func byTime(a, b api.Point) int { return cmp.Compare(a.Time, b.Time) }

// Count is how many samples a series has.
func (s *Set) Count(series int) int { return len(s.points[series]) }

// Points goes through a series, by rising times.
func (s *Set) Points(series int) iter.Seq[api.Point] {
	return slices.Values(s.points[series])
}
