package blocks

import (
	"math"
	"testing"
)

func TestFits(t *testing.T) {
	for _, r := range []Range{{0, 0}, {0, 999999}, {999999, 999999}, {3, 4}} {
		if !r.Fits() {
			t.Errorf("%v does not fit", r)
		}
	}
	for _, r := range []Range{{-1, 0}, {-2, -1}, {1, 0}, {0, 1000000}, {1000000, 1000000}, {math.MinInt, math.MaxInt}, {math.MaxInt, math.MinInt}} {
		if r.Fits() {
			t.Errorf("%v fits", r)
		}
	}
}

func TestNamesBothWays(t *testing.T) {
	for name, r := range map[string]Range{"b0.0": {0, 0}, "b3.10": {3, 10}, "b10.100": {10, 100}, "b0.999999": {0, 999999}, "b999999.999999": {999999, 999999}} {
		if got := r.Name(); got != name {
			t.Errorf("the name of %v is %q, want %q", r, got, name)
		}
		if got, ok := FromName(name); got != r || !ok {
			t.Errorf("FromName(%q) = %v, %t", name, got, ok)
		}
	}
}

func TestFromNameOfOthers(t *testing.T) {
	for _, name := range []string{
		"", "b", "b.", "b0", "b0.", "b.0", "0.0", "c0.0", "B0.0", " b0.0", "b0.0 ", "b0.0\n", "b0 .0", "bb0.0", "b0.0.0", "b0..0", "b0,0",
		"b00.0", "b0.00", "b01.1", "b1.01", "b3.2", "b10.9", "b0.1000000", "b1000000.1000000", "b0.9999999999999999999999",
		"b-1.0", "b-0.0", "b+0.0", "b0.+1", "b0x0.1", "b0.1e3", "b0.1_0", "b0.\u0661", "s1.b0.0", "w0", "t.b",
	} {
		if r, ok := FromName(name); ok || r != (Range{}) {
			t.Errorf("FromName(%q) = %v, %t", name, r, ok)
		}
	}
}
