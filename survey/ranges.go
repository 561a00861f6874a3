package survey

import (
	"cmp"
	"slices"
	"sort"

	"silo/api"
	"silo/blocks"
	"silo/logs"
)

// takeBlocks has the blocks stay that lie in no other one; false, if one is
// none, or two meet and neither lies in the other.
func (s *surveyor) takeBlocks() bool {
	ranges, ok := s.ranges()
	if !ok {
		return false
	}
	slices.SortFunc(ranges, outerFirst)
	// Those that reach up to where we are, each in the one ahead of it.
	var around []blocks.Range
	for _, r := range ranges {
		for len(around) > 0 && around[len(around)-1].Hi < r.Lo {
			around = around[:len(around)-1]
		}
		if len(around) == 0 {
			s.Blocks = append(s.Blocks, r)
			s.stay(r.Name(), r.Hi)
		} else if around[len(around)-1].Hi < r.Hi {
			return false
		}
		around = append(around, r)
	}
	return true
}

// ranges is those of the names of blocks; false, if a file is not of its range.
func (s *surveyor) ranges() ([]blocks.Range, bool) {
	var ranges []blocks.Range
	for _, name := range s.names {
		r, ok := blocks.FromName(name)
		if !ok {
			continue
		}
		if !blocks.IsFile(r, s.files[name].Data) {
			return nil, false
		}
		ranges = append(ranges, r)
	}
	return ranges, true
}

// outerFirst puts ranges by rising lo, and one ahead of those that lie in it.
func outerFirst(a, b blocks.Range) int {
	return cmp.Or(cmp.Compare(a.Lo, b.Lo), cmp.Compare(b.Hi, a.Hi))
}

// takeLogs has the logs stay that lie in no block, and fills the head; false,
// if one of them is below a block, or has a payload that is none.
func (s *surveyor) takeLogs() bool {
	var laid []api.Sample
	for _, number := range s.logNumbers() {
		if b, ok := s.blockFrom(number); ok {
			if number < b.Lo {
				return false
			}
			continue
		}
		name := logs.Name(number)
		data := s.files[name].Data
		samples, size, ok := logs.Read(data)
		if !ok {
			return false
		}
		if size < len(data) {
			s.Torn = append(s.Torn, Torn{Log: name, Size: size})
		}
		laid = append(laid, samples...)
		s.Logs = append(s.Logs, number)
		s.stay(name, number)
	}
	s.Head.Lay(slices.Values(laid))
	return true
}

// logNumbers is those of all logs, in rising order.
func (s *surveyor) logNumbers() []int {
	var numbers []int
	for _, name := range s.names {
		if number, ok := logs.FromName(name); ok {
			numbers = append(numbers, number)
		}
	}
	slices.Sort(numbers)
	return numbers
}

// blockFrom is the lowest block that does not end below a number.
func (s *surveyor) blockFrom(number int) (blocks.Range, bool) {
	at := sort.Search(len(s.Blocks), func(i int) bool { return s.Blocks[i].Hi >= number })
	if at == len(s.Blocks) {
		return blocks.Range{}, false
	}
	return s.Blocks[at], true
}
