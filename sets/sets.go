// Package sets: samples, at most one of a series at a time.
package sets

import (
	"iter"

	"silo/api"
)

// Set is a set of samples. Its zero value is the empty one.
type Set struct {
	lines [api.MaxSeries]Line
}

// IsSeries tells whether there may be a series of this number.
func IsSeries(series int) bool {
	return 0 <= series && series < api.MaxSeries
}

// Fits tells whether every sample has a series that may be.
func Fits(samples []api.Sample) bool {
	for _, sample := range samples {
		if !IsSeries(sample.Series) {
			return false
		}
	}
	return true
}

// Lay lays samples on the set, in their order. They must fit.
func (s *Set) Lay(samples iter.Seq[api.Sample]) {
	var fresh [api.MaxSeries][]api.Point
	for sample := range samples {
		point := api.Point{Time: sample.Time, Value: sample.Value}
		fresh[sample.Series] = append(fresh[sample.Series], point)
	}
	for series, points := range fresh {
		s.lines[series].lay(settled(points))
	}
}

// Empty tells whether the set has no sample.
func (s *Set) Empty() bool {
	for series := range s.lines {
		if s.lines[series].Count() > 0 {
			return false
		}
	}
	return true
}

// Line is what the set has of a series.
func (s *Set) Line(series int) *Line { return &s.lines[series] }

// Samples goes through the samples, by rising series, then times.
func (s *Set) Samples() iter.Seq[api.Sample] {
	return func(yield func(api.Sample) bool) {
		for series := range s.lines {
			for point := range s.lines[series].Points() {
				if !yield(api.Sample{Series: series, Time: point.Time, Value: point.Value}) {
					return
				}
			}
		}
	}
}
