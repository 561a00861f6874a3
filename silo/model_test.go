package silo_test

import (
	"encoding/binary"
	"hash/fnv"
	"maps"
	"math/rand"
	"slices"

	"silo/api"
)

// sealed: bytes, and their hash, by the library's means.
func sealed(body string) string {
	h := fnv.New64a()
	h.Write([]byte(body))
	return body + string(h.Sum(nil))
}

// laid: what a list leaves on an empty set, by rising series, then times.
func laid(list []api.Sample) []api.Sample {
	type key struct{ series, time int }
	set := map[key]api.Sample{}
	for _, x := range list {
		set[key{x.Series, x.Time}] = x
	}
	return slices.SortedFunc(maps.Values(set), func(a, b api.Sample) int {
		if a.Series < b.Series || a.Series == b.Series && a.Time < b.Time {
			return -1
		}
		return 1
	})
}

// modelFile: the file of a block, written down straight from the document.
func modelFile(lo, hi int, list []api.Sample) string {
	put := binary.AppendUvarint
	out := put(put([]byte("B"), uint64(lo)), uint64(hi))
	all := laid(list)
	for series := range api.MaxSeries {
		var own []api.Sample
		for _, x := range all {
			if x.Series == series {
				own = append(own, x)
			}
		}
		if len(own) == 0 {
			continue
		}
		out = put(put(out, uint64(series+1)), uint64(len(own)))
		for i, x := range own {
			if i == 0 {
				// binary's signed numbers are coded as the document's.
				out = put(binary.AppendVarint(out, int64(x.Time)), x.Value)
			} else {
				out = put(put(out, uint64(x.Time)-uint64(own[i-1].Time)), x.Value^own[i-1].Value)
			}
		}
	}
	return sealed(string(append(out, 0)))
}

// anyTime, anyValue: small ones, so that they meet, and ones at the edges.
func anyTime(r *rand.Rand) int {
	edges := []int{-1 << 63, -1<<63 + 1, -1, 0, 1, 1<<63 - 2, 1<<63 - 1}
	switch r.Intn(3) {
	case 0:
		return edges[r.Intn(len(edges))]
	case 1:
		return int(r.Uint64())
	}
	return r.Intn(20) - 10
}

func anyValue(r *rand.Rand) uint64 {
	edges := []uint64{0, 1, 127, 128, 1 << 63, 1<<64 - 1}
	if r.Intn(2) == 0 {
		return edges[r.Intn(len(edges))]
	}
	return r.Uint64() >> r.Intn(64)
}

func anySamples(r *rand.Rand, most int) []api.Sample {
	var out []api.Sample
	for range r.Intn(most + 1) {
		out = append(out, api.Sample{Series: r.Intn(api.MaxSeries), Time: anyTime(r), Value: anyValue(r)})
	}
	return out
}

func anyRange(r *rand.Rand) (int, int) {
	lo, hi := r.Intn(api.MaxNumber+1), r.Intn(api.MaxNumber+1)
	return min(lo, hi), max(lo, hi)
}
