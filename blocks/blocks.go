// Package blocks: a set of samples with a range, and its file.
package blocks

import (
	"iter"
	"math"
	"slices"
	"strings"

	"silo/api"
	"silo/codes"
	"silo/sets"
)

// The file begins with mark; end stands where a further series would.
const (
	mark = "B"
	end  = 0
)

// leastBytes is how many bytes a sample has at least: a time's, a value's.
const leastBytes = 2

// Encode is the file of the block with this range and set.
func Encode(r Range, set *sets.Set) string {
	file := []byte(mark)
	file = codes.Append(file, uint64(r.Lo))
	file = codes.Append(file, uint64(r.Hi))
	for series := range api.MaxSeries {
		if line := set.Line(series); line.Count() > 0 {
			file = appendSeries(file, series, line)
		}
	}
	return codes.Sealed(string(append(file, end)))
}

func appendSeries(file []byte, series int, line *sets.Line) []byte {
	file = codes.Append(file, uint64(series)+1)
	file = codes.Append(file, uint64(line.Count()))
	first := true
	var ahead api.Point
	for point := range line.Points() {
		file = codes.Append(file, timeCode(point.Time, ahead.Time, first))
		file = codes.Append(file, point.Value^ahead.Value)
		ahead, first = point, false
	}
	return file
}

func timeCode(time int, ahead int, first bool) uint64 {
	if first {
		return codes.FromSigned(time)
	}
	return uint64(time) - uint64(ahead)
}

// Decode reads a file: its range and its samples, by rising series, then
// times; false, unless the bytes are just the file of a block.
func Decode(file string) (Range, []api.Sample, bool) {
	data, sealed := codes.Unsealed(file)
	body, marked := strings.CutPrefix(data, mark)
	if !sealed || !marked {
		return Range{}, nil, false
	}
	r := codes.NewReader(body)
	span := readRange(r)
	if !span.Fits() {
		return Range{}, nil, false
	}
	samples := slices.Collect(readSamples(r))
	if !r.Done() {
		return Range{}, nil, false
	}
	return span, samples, true
}

// IsFile tells whether the bytes are just the file of a block with this range.
func IsFile(r Range, file string) bool {
	span, _, ok := Decode(file)
	return ok && span == r
}

// Samples goes through the samples, by rising series, then times, of what must
// be the file of a block: it was looked at when it was written or opened, so
// its hash is not asked again.
func Samples(file string) iter.Seq[api.Sample] {
	return func(yield func(api.Sample) bool) {
		r := codes.NewReader(strings.TrimPrefix(file, mark))
		readRange(r)
		for sample := range readSamples(r) {
			if !yield(sample) {
				return
			}
		}
	}
}

// Between goes through the points of a series from a time to a time, both
// included, of what must be the file of a block.
func Between(file string, series int, from int, to int) iter.Seq[api.Point] {
	return func(yield func(api.Point) bool) {
		for sample := range Samples(file) {
			if sample.Series < series || sample.Series == series && sample.Time < from {
				continue
			}
			if sample.Series > series || sample.Time > to {
				return
			}
			if !yield(api.Point{Time: sample.Time, Value: sample.Value}) {
				return
			}
		}
	}
}

func readRange(r *codes.Reader) Range {
	lo := readNumber(r)
	hi := readNumber(r)
	return Range{Lo: lo, Hi: hi}
}

// readNumber fails above MaxNumber ahead of making an int of the code, which
// could turn out to be small or below 0.
func readNumber(r *codes.Reader) int {
	n := r.Code()
	if n > api.MaxNumber {
		r.Fail()
		return 0
	}
	return int(n)
}

// readSamples goes through the samples up to the end mark, or up to what is
// wrong: the reader tells which.
func readSamples(r *codes.Reader) iter.Seq[api.Sample] {
	return func(yield func(api.Sample) bool) {
		ahead := uint64(end)
		for {
			code := r.Code()
			if code == end {
				return
			}
			if code <= ahead || code > api.MaxSeries {
				r.Fail()
				return
			}
			ahead = code
			for point := range readPoints(r) {
				if !yield(api.Sample{Series: int(code) - 1, Time: point.Time, Value: point.Value}) {
					return
				}
			}
		}
	}
}

// readPoints goes through the points of one series.
func readPoints(r *codes.Reader) iter.Seq[api.Point] {
	return func(yield func(api.Point) bool) {
		count := r.Code()
		if count == 0 || count > uint64(r.Left()/leastBytes) {
			r.Fail()
			return
		}
		var point api.Point
		for i := range count {
			point.Time = readTime(r, point.Time, i == 0)
			point.Value ^= r.Code()
			if r.Failed() || !yield(point) {
				return
			}
		}
	}
}

func readTime(r *codes.Reader, ahead int, first bool) int {
	code := r.Code()
	if first {
		return codes.ToSigned(code)
	}
	// The room is a uint64, as from the least int on it does not fit an int.
	room := uint64(math.MaxInt) - uint64(ahead)
	if code == 0 || code > room {
		r.Fail()
		return 0
	}
	return ahead + int(code)
}
