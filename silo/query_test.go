package silo_test

import (
	"math/rand"
	"runtime"
	"slices"
	"sync"
	"testing"
	"time"

	"silo/api"
	"silo/silo"
)

func TestQueryErrors(t *testing.T) {
	e := open(t, quiet)
	for series := range api.MaxSeries {
		put(t, e, api.Sample{Series: series, Time: 1, Value: 1})
	}
	for _, series := range []int{-1, 16, 17, least, greatest} {
		for _, span := range [][2]int{{0, 9}, {9, 0}, {least, greatest}} {
			if got, err := e.Query(series, span[0], span[1]); len(got) != 0 || err != api.ErrSeries {
				t.Errorf("P10: Query(%d, %v) = %v, %d, want ErrSeries", series, span, got, err)
			}
		}
	}
	for series := range api.MaxSeries {
		wantQuery(t, e, series, 1, 1, api.Point{Time: 1, Value: 1})
	}
}

// spread: an engine with two blocks, frozen samples and a head, that lie above
// one another; what it tells of series 4.
func spread(t *testing.T) (*silo.Engine, []api.Point) {
	t.Helper()
	e := open(t, quiet)
	put(t, e, api.Sample{Series: 4, Time: least, Value: 1}, api.Sample{Series: 4, Time: 0, Value: 1}, api.Sample{Series: 4, Time: 1, Value: 1}, api.Sample{Series: 4, Time: 2, Value: 1}, api.Sample{Series: 3, Time: 0, Value: 77})
	cut(t, e)
	put(t, e, api.Sample{Series: 4, Time: -5, Value: 2}, api.Sample{Series: 4, Time: 1, Value: 2}, api.Sample{Series: 4, Time: 2, Value: 2}, api.Sample{Series: 4, Time: greatest, Value: 2}, api.Sample{Series: 5, Time: 0, Value: 77})
	cut(t, e)
	put(t, e, api.Sample{Series: 4, Time: 2, Value: 3}, api.Sample{Series: 4, Time: 3, Value: 3}, api.Sample{Series: 4, Time: -4, Value: 3})
	n, _ := e.Cut()
	wantMove(t, e, n, false)
	put(t, e, api.Sample{Series: 4, Time: 3, Value: 4}, api.Sample{Series: 4, Time: 9, Value: 4}, api.Sample{Series: 4, Time: 0, Value: 4})
	return e, []api.Point{{Time: least, Value: 1}, {Time: -5, Value: 2}, {Time: -4, Value: 3}, {Time: 0, Value: 4}, {Time: 1, Value: 2}, {Time: 2, Value: 3}, {Time: 3, Value: 4}, {Time: 9, Value: 4}, {Time: greatest, Value: 2}}
}

func TestQueryFromTimeToTime(t *testing.T) {
	e, all := spread(t)
	times := []int{least, least + 1, -6, -5, -4, -3, 0, 1, 2, 3, 4, 9, 10, greatest - 1, greatest}
	for _, from := range times {
		for _, to := range times {
			var want []api.Point
			for _, p := range all {
				if from <= p.Time && p.Time <= to {
					want = append(want, p)
				}
			}
			wantQuery(t, e, 4, from, to, want...)
		}
	}
	wantQuery(t, e, 3, least, greatest, api.Point{Time: 0, Value: 77})
	wantQuery(t, e, 5, least, greatest, api.Point{Time: 0, Value: 77})
	wantQuery(t, e, 0, least, greatest)
	wantQuery(t, e, 15, least, greatest)
}

func TestQueryAnswersNewMemory(t *testing.T) {
	e, all := spread(t)
	before := e.Files()
	mark := api.Point{Time: 12345, Value: 54321}
	one, _ := e.Query(4, least, greatest)
	two, _ := e.Query(4, least, greatest)
	room := one[:cap(one)]
	for i := range room {
		room[i] = mark
	}
	if !slices.Equal(two, all) || slices.Contains(two[:cap(two)], mark) {
		t.Errorf("P2: two answers of Query share memory: %v", two)
	}
	wantQuery(t, e, 4, least, greatest, all...)
	wantFiles(t, "behind what was written into an answer", e, flat(before)...)
	head := open(t, quiet)
	put(t, head, api.Sample{Series: 0, Time: 1, Value: 1})
	got, _ := head.Query(0, least, greatest)
	got = append(got[:1], mark)
	got[0] = mark
	wantQuery(t, head, 0, least, greatest, api.Point{Time: 1, Value: 1})
	put(t, head, api.Sample{Series: 0, Time: 2, Value: 2})
	if !slices.Equal(got, []api.Point{mark, mark}) {
		t.Errorf("P2: an Append wrote into an answer: %v", got)
	}
}

// TestQueryNeverHangsOnWhoIsQuicker: the lower blocks are short and quickly
// read, or long, and what is told is the same.
func TestQueryNeverHangsOnWhoIsQuicker(t *testing.T) {
	r := rand.New(rand.NewSource(7))
	e := open(t, quiet)
	for i := range 24 {
		for range 1 + r.Intn(60) {
			var batch []api.Sample
			for range 8 {
				batch = append(batch, api.Sample{Series: 2, Time: r.Intn(50), Value: uint64(i)})
			}
			put(t, e, batch...)
		}
		for time := range 50 {
			put(t, e, api.Sample{Series: 2, Time: time, Value: uint64(i)})
		}
		cut(t, e)
	}
	var want []api.Point
	for time := range 50 {
		want = append(want, api.Point{Time: time, Value: 23})
	}
	for range 200 {
		wantQuery(t, e, 2, 0, 49, want...)
	}
	// And above all of them what is frozen, and the head.
	put(t, e, api.Sample{Series: 2, Time: 7, Value: 90}, api.Sample{Series: 2, Time: 8, Value: 90})
	n, _ := e.Cut()
	wantMove(t, e, n, false)
	put(t, e, api.Sample{Series: 2, Time: 8, Value: 91}, api.Sample{Series: 2, Time: 9, Value: 91})
	want[7].Value, want[8].Value, want[9].Value = 90, 91, 91
	for range 200 {
		wantQuery(t, e, 2, 0, 49, want...)
	}
}

// TestQueriesAtOnce: they only look, so they may be asked beside one another.
func TestQueriesAtOnce(t *testing.T) {
	e, all := spread(t)
	var asked sync.WaitGroup
	defer asked.Wait()
	for range 8 {
		asked.Go(func() { wantQuery(t, e, 4, least, greatest, all...) })
	}
}

func TestQueryLeavesNoGoroutine(t *testing.T) {
	e, all := spread(t)
	before := runtime.NumGoroutine()
	for range 500 {
		wantQuery(t, e, 4, least, greatest, all...)
		wantQuery(t, e, 4, 1, 1, api.Point{Time: 1, Value: 2})
	}
	// A goroutine that has ended is counted a moment longer.
	for range 100 {
		if runtime.NumGoroutine() <= before {
			return
		}
		time.Sleep(10 * time.Millisecond)
	}
	t.Errorf("%d goroutines behind Query, %d ahead", runtime.NumGoroutine(), before)
}
