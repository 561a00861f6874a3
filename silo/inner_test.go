package silo

import (
	"slices"
	"sync"
	"testing"

	"silo/api"
)

// TestCutWhenNumbersRunOut looks inside, as a million cuts take too long.
func TestCutWhenNumbersRunOut(t *testing.T) {
	e, _ := Open(nil, api.Options{Crash: api.Never})
	e.next = 999990
	e.Append([]api.Sample{{}})
	e.Move(1)
	if n, err := e.Cut(); n != 2 || err != api.OK {
		t.Fatalf("P6: Cut at 999990 = %d, %d", n, err)
	}
	e.Move(2)
	if l := e.Files(); len(l) != 2 || l[1].Name != "w999990" || e.next != 999991 {
		t.Errorf("P6: %q, next %d", l, e.next)
	}
	if n, err := e.Cut(); n != 0 || err != api.ErrBusy {
		t.Errorf("P6, P1: Cut while one is at work, at 999991 = %d, %d", n, err)
	}
	for range 3 {
		e.Move(2)
	}
	for _, next := range []int{999991, 999999, 1000000} {
		e.next = next
		before := e.Files()
		if n, err := e.Cut(); n != 0 || err != api.ErrFull {
			t.Errorf("P6: Cut at %d = %d, %d", next, n, err)
		}
		if _, _, err := e.Move(3); err != api.ErrMachine || len(e.Files()) != len(before) {
			t.Errorf("P6, P1: what was refused began: %d, %q", err, e.Files())
		}
	}
}

// TestNothingIsFrozenBehindTheThirdStep: Query can't tell, as the block has the
// same samples.
func TestNothingIsFrozenBehindTheThirdStep(t *testing.T) {
	e, _ := Open(nil, api.Options{Crash: api.Never})
	e.Append([]api.Sample{{}})
	e.Move(1)
	e.Cut()
	for step := 1; step <= 4; step++ {
		e.Move(2)
		if frozen := !e.frozen.Empty(); frozen != (step < 3) {
			t.Errorf("P6: step %d: frozen %t", step, frozen)
		}
	}
}

// TestPileTakesWhatManyLayAtOnce: without its lock some of it would be lost.
func TestPileTakesWhatManyLayAtOnce(t *testing.T) {
	const readers, each = 16, 2000
	var found pile
	var laying sync.WaitGroup
	for reader := range readers {
		laying.Go(func() {
			for i := range each {
				height := i*readers + reader
				found.put(height, slices.Values([]api.Point{{Time: height}}))
			}
		})
	}
	laying.Wait()
	next := 0
	for point := range found.upward() {
		if point.Time != next {
			t.Fatalf("%v in the place of layer %d", point, next)
		}
		next++
	}
	if next != readers*each {
		t.Errorf("%d layers, want %d", next, readers*each)
	}
	for range found.upward() {
		break
	}
}
