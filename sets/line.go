package sets

import (
	"cmp"
	"iter"
	"slices"

	"silo/api"
)

// Line is what a set has of one series. Its zero value is empty.
type Line struct {
	// In rising order of times, no time twice.
	points []api.Point
}

// Lay lays points on the line, in their order.
func (l *Line) Lay(points iter.Seq[api.Point]) {
	l.lay(settled(slices.Collect(points)))
}

// lay lays points that are in order already. What lies ahead of them all is
// left where it is, as times mostly rise from batch to batch.
func (l *Line) lay(upper []api.Point) {
	if len(upper) == 0 {
		return
	}
	from := l.place(upper[0].Time)
	// A copy, as its place is written over.
	lower := slices.Clone(l.points[from:])
	l.points = slices.AppendSeq(l.points[:from], layered(lower, upper))
}

// place is how many points are ahead of a time.
func (l *Line) place(time int) int {
	at, _ := slices.BinarySearchFunc(l.points, time, func(point api.Point, time int) int {
		return cmp.Compare(point.Time, time)
	})
	return at
}

// settled puts points in rising order of times and keeps, of those at one
// time, the one that was laid last. It works in the memory of what it is given.
func settled(points []api.Point) []api.Point {
	// Stable, as the order among those at one time says which was laid last.
	slices.SortStableFunc(points, byTime)
	kept := points[:0]
	for i, point := range points {
		if i+1 < len(points) && points[i+1].Time == point.Time {
			continue
		}
		kept = append(kept, point)
	}
	return kept
}

func byTime(a, b api.Point) int { return cmp.Compare(a.Time, b.Time) }

// layered goes through two lists that are in order as if they were one: of two
// points at one time it tells the upper one.
func layered(lower []api.Point, upper []api.Point) iter.Seq[api.Point] {
	return func(yield func(api.Point) bool) {
		i := 0
		for _, point := range upper {
			for ; i < len(lower) && lower[i].Time < point.Time; i++ {
				if !yield(lower[i]) {
					return
				}
			}
			if i < len(lower) && lower[i].Time == point.Time {
				i++
			}
			if !yield(point) {
				return
			}
		}
		for _, point := range lower[i:] {
			if !yield(point) {
				return
			}
		}
	}
}

// Count is how many points there are.
func (l *Line) Count() int { return len(l.points) }

// Points goes through the points, by rising times.
func (l *Line) Points() iter.Seq[api.Point] { return slices.Values(l.points) }

// Between goes through those from a time to a time, both included.
func (l *Line) Between(from int, to int) iter.Seq[api.Point] {
	return func(yield func(api.Point) bool) {
		for _, point := range l.points[l.place(from):] {
			if point.Time > to || !yield(point) {
				return
			}
		}
	}
}
