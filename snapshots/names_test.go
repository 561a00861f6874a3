package snapshots

import (
	"testing"

	"silo/blocks"
)

func TestManifestNames(t *testing.T) {
	for number, name := range map[int]string{0: "s0.m", 7: "s7.m", 10: "s10.m", 999999: "s999999.m"} {
		if got := ManifestName(number); got != name {
			t.Errorf("ManifestName(%d) = %q", number, got)
		}
		if got, ok := FromManifestName(name); got != number || !ok {
			t.Errorf("FromManifestName(%q) = %d, %t", name, got, ok)
		}
		if _, _, ok := FromBlockName(name); ok {
			t.Errorf("%q is a block's name", name)
		}
	}
	for _, name := range []string{"", "s", "s.m", "sm", "s1", "s1.", "s1.mm", "s1.M", "S1.m", "s01.m", "s00.m", "s-1.m", "s+1.m", "s1000000.m", "s1.m ", " s1.m", "s1.m\n", "s1..m", "s1.b0.0", "s1.x", "1.m", "ss1.m", "s9223372036854775808.m"} {
		if got, ok := FromManifestName(name); got != 0 || ok {
			t.Errorf("FromManifestName(%q) = %d, %t", name, got, ok)
		}
	}
}

func TestBlockNames(t *testing.T) {
	for name, c := range map[string]struct {
		snapshot int
		r        blocks.Range
	}{
		"s0.b0.0": {0, blocks.Range{Lo: 0, Hi: 0}}, "s2.b3.10": {2, blocks.Range{Lo: 3, Hi: 10}}, "s999999.b0.999999": {999999, blocks.Range{Lo: 0, Hi: 999999}},
	} {
		if got := BlockName(c.snapshot, c.r); got != name {
			t.Errorf("BlockName(%v) = %q, want %q", c, got, name)
		}
		if snapshot, r, ok := FromBlockName(name); snapshot != c.snapshot || r != c.r || !ok {
			t.Errorf("FromBlockName(%q) = %d, %v, %t", name, snapshot, r, ok)
		}
		if _, ok := FromManifestName(name); ok {
			t.Errorf("%q is a manifest's name", name)
		}
	}
	for _, name := range []string{"", "s", "s1.m", "s1.b", "s1.b0", "s1.b0.", "s.b0.0", "s1b0.0", "s01.b0.0", "s1.b00.0", "s1.b2.1", "s1.b0.1000000", "s1000000.b0.0", "s-1.b0.0", "s1.b0.0.0", "s1.b0.0 ", "b0.0", "s1.s1.b0.0", "s1..b0.0"} {
		if snapshot, r, ok := FromBlockName(name); snapshot != 0 || r != (blocks.Range{}) || ok {
			t.Errorf("FromBlockName(%q) = %d, %v, %t", name, snapshot, r, ok)
		}
	}
}
