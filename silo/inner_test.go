package silo

import (
	"slices"
	"sync"
	"testing"

	"silo/api"
)

// TestNothingIsFrozenBehindTheThirdStep: Query can't tell, as the block has the
// same samples.
func TestNothingIsFrozenBehindTheThirdStep(t *testing.T) {
	e, _ := Open(nil, api.Options{Crash: api.Never})
	e.Append([]api.Sample{{}})
	e.Move(1)
	e.Cut()
	for step := 1; step <= 4; step++ {
		e.Move(2)
		if frozen := !e.frozen.Empty(); frozen != (step < 3) {
			t.Errorf("P6: step %d: frozen %t", step, frozen)
		}
	}
}

// TestALostEngineKeepsItsDiskAlone: no call but Files sees more of it.
func TestALostEngineKeepsItsDiskAlone(t *testing.T) {
	e, _ := Open(nil, api.Options{Crash: 3})
	e.Append([]api.Sample{{}})
	e.Snapshot()
	for range 2 {
		e.Move(1)
	}
	if e.fault != api.ErrLost || e.machines != nil || e.live != nil || !e.head.Empty() || e.next != 0 {
		t.Errorf("a lost engine keeps %+v", e)
	}
}

// TestPileTakesWhatManyLayAtOnce: without its lock some of it would be lost.
func TestPileTakesWhatManyLayAtOnce(t *testing.T) {
	const readers, each = 16, 2000
	var found pile
	var laying sync.WaitGroup
	for reader := range readers {
		laying.Go(func() {
			for i := range each {
				height := i*readers + reader
				found.put(height, slices.Values([]api.Point{{Time: height}}))
			}
		})
	}
	laying.Wait()
	next := 0
	for point := range found.upward() {
		if point.Time != next {
			t.Fatalf("%v in the place of layer %d", point, next)
		}
		next++
	}
	if next != readers*each {
		t.Errorf("%d layers, want %d", next, readers*each)
	}
	for range found.upward() {
		break
	}
}
