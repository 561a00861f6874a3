package silo_test

import (
	"math/rand"
	"slices"
	"testing"

	"silo/api"
)

// play: calls that are written down: a begins an Append, c a Cut, k a Compact,
// s a Snapshot; a digit is a Move of the machine of this number.
func (p *pair) play(calls string) {
	p.t.Helper()
	for i, call := range calls {
		switch call {
		case 'a':
			p.appendOf([]api.Sample{{Series: 1, Time: i % 3, Value: uint64(i)}})
		case 'c':
			p.begins(p.engine.Cut, p.model.cut)
		case 'k':
			p.begins(p.engine.Compact, p.model.compact)
		case 's':
			p.begins(p.engine.Snapshot, p.model.snapshot)
		default:
			p.moves(int(call - '0'))
		}
		p.checkFiles()
	}
}

// TestOperationsInTheirOrder: with power lost ahead of each of them, and each
// number of steps of the directory left, just these can be the operations.
func TestOperationsInTheirOrder(t *testing.T) {
	t.Parallel()
	long := slices.Repeat([]int{0, 1, 2, 30, 5}, 9)
	three := files("b0.0", one(0, 0, 0, 0), "b1.1", one(1, 1, 1, 1), "b2.2", one(2, 2, 2, 2))
	for why, c := range map[string]struct {
		given []api.File
		calls string
	}{
		"an append":                            {nil, "a11"},
		"a cut":                                {nil, "a11c2222"},
		"a cut of several logs":                {files("w0", frameOf(1, 1), "w9", frameOf(1, 2), "w10", ""), "a11c2222"},
		"a compaction":                         {three, "k111"},
		"a compaction of what is above":        {three, "k111k222"},
		"a compaction of one":                  {nil, "a11c2222k3"},
		"a snapshot":                           {three, "s111"},
		"a snapshot of nothing":                {nil, "s111"},
		"a snapshot with a block of its own":   {three, "a11s222"},
		"a snapshot while something is frozen": {three, "a11c22a33s444"},
		"a compaction of what is pinned":       {three, "s1k222k33311"},
		"one is pinned, one is not":            {three[:1], "a11c22s322k44433"},
		"pinned, and no more":                  {three, "s1k22112"},
		"snapshots one behind the other":       {three, "s111a22s333k444"},
		"all between one another":              {three, "a1cks234234a5234235"},
	} {
		t.Run(why, func(t *testing.T) {
			r := rand.New(rand.NewSource(1))
			whole := openPair(t, r, c.given, quiet)
			whole.play(c.calls)
			keeps := [][]int{nil, {1, 0}, {0, 9, greatest}, long}
			for crash := range whole.model.ops {
				for _, o := range losses(whole, crash, keeps...) {
					p := openPair(t, r, c.given, o)
					p.play(c.calls)
					p.wantSilence(why)
				}
			}
			// Operations that are never come to.
			for _, crash := range []int{len(whole.model.ops), greatest} {
				p := openPair(t, r, c.given, api.Options{Crash: crash, Dirs: 1})
				p.play(c.calls)
			}
		})
	}
}
