package survey

import (
	"cmp"
	"fmt"
	"slices"
	"testing"

	"silo/api"
	"silo/blocks"
	"silo/logs"
	"silo/sets"
)

func block(r blocks.Range) api.File {
	return api.File{Name: r.Name(), Data: blocks.Encode(r, &sets.Set{})}
}

// apart: whether ranges meet only where one lies in the other; those that lie
// in no other one. Each is held against each.
func apart(ranges []blocks.Range) (outer []blocks.Range, ok bool) {
	for _, a := range ranges {
		lies := false
		for _, b := range ranges {
			if a == b || a.Hi < b.Lo || b.Hi < a.Lo {
				continue
			}
			aInB, bInA := b.Lo <= a.Lo && a.Hi <= b.Hi, a.Lo <= b.Lo && b.Hi <= a.Hi
			if !aInB && !bInA {
				return nil, false
			}
			lies = lies || aInB
		}
		if !lies {
			outer = append(outer, a)
		}
	}
	slices.SortFunc(outer, func(a, b blocks.Range) int { return cmp.Compare(a.Lo, b.Lo) })
	return outer, true
}

// few: all ranges of the numbers 8 to 11, on both sides of a further digit.
func few() []blocks.Range {
	var out []blocks.Range
	for lo := 8; lo <= 11; lo++ {
		for hi := lo; hi <= 11; hi++ {
			out = append(out, blocks.Range{Lo: lo, Hi: hi})
		}
	}
	return out
}

func TestAnyBlocks(t *testing.T) {
	all := few()
	for subset := range 1 << len(all) {
		var ranges []blocks.Range
		var files []api.File
		for i, r := range all {
			if subset>>i&1 == 1 {
				ranges = append(ranges, r)
				files = append(files, block(r))
			}
		}
		s, ok := Of(files)
		outer, wantOk := apart(ranges)
		if ok != wantOk || !slices.Equal(s.Blocks, outer) {
			t.Errorf("%v: %v, %t, want %v, %t", ranges, s.Blocks, ok, outer, wantOk)
		}
		if ok && len(s.Goes) != len(ranges)-len(outer) {
			t.Errorf("%v: %q go", ranges, s.Goes)
		}
	}
}

func TestALogBesideBlocks(t *testing.T) {
	two := []blocks.Range{{Lo: 3, Hi: 5}, {Lo: 8, Hi: 8}}
	for number, want := range []string{"wrong", "wrong", "wrong", "goes", "goes", "goes", "wrong", "wrong", "goes", "stays", "stays"} {
		files := []api.File{block(two[0]), block(two[1]), {Name: logs.Name(number)}}
		s, ok := Of(files)
		got := "wrong"
		if ok && slices.Equal(s.Logs, []int{number}) && s.Goes == nil && s.Next == number+1 {
			got = "stays"
		}
		if ok && s.Logs == nil && slices.Equal(s.Goes, []string{logs.Name(number)}) && s.Next == 9 {
			got = "goes"
		}
		if got != want {
			t.Errorf("w%d: %v, %t: it %s, want: it %s", number, s, ok, got, want)
		}
	}
}

func TestTornLogs(t *testing.T) {
	frame := logs.Frame([]api.Sample{{Series: 1, Time: 2, Value: 3}})
	s, ok := Of([]api.File{{Name: "w10", Data: frame + "x"}, {Name: "w9", Data: "xx"}, {Name: "w8", Data: frame}})
	if !ok || !slices.Equal(s.Logs, []int{8, 9, 10}) || !slices.Equal(s.Torn, []Torn{{Log: "w9", Size: 0}, {Log: "w10", Size: len(frame)}}) {
		t.Errorf("%v, %t", s, ok)
	}
}

// TestManyFilesEnd: if each was held against each, it would not, within the
// tests' time.
func TestManyFilesEnd(t *testing.T) {
	const many = 60000
	var files []api.File
	for i := range many {
		files = append(files, block(blocks.Range{Lo: i, Hi: i}), api.File{Name: logs.Name(i)}, api.File{Name: fmt.Sprintf("s%d.b0.0", i)})
	}
	s, ok := Of(files)
	if !ok || len(s.Blocks) != many || len(s.Goes) != 2*many || s.Next != many {
		t.Errorf("%d blocks, %d go, next %d, %t", len(s.Blocks), len(s.Goes), s.Next, ok)
	}
}
