package silo_test

import (
	"slices"
	"strings"
	"testing"

	"silo/api"
	"silo/silo"
)

func wantManifest(t *testing.T, e *silo.Engine, snapshot int, want string) {
	t.Helper()
	if got, err := e.Manifest(snapshot); got != want || err != api.OK {
		t.Errorf("P11: Manifest(%d) = %q, %d, want %q", snapshot, got, err, want)
	}
}

func wantArchive(t *testing.T, why string, e *silo.Engine, snapshot int, base, want string) {
	t.Helper()
	if got, err := e.Backup(snapshot, base); got != want || err != api.OK {
		t.Errorf("%s: Backup(%d, %q) = %x, %d, want %x", why, snapshot, base, got, err, want)
	}
}

// shots: an engine with two snapshots: 2 has b0.0; 4 has b0.0, b1.1 and b5.5,
// which is its own.
func shots(t *testing.T) *silo.Engine {
	t.Helper()
	e := open(t, quiet)
	cutOf(t, e, api.Sample{Series: 1, Time: 1, Value: 1})
	if k := snap(t, e); k != 2 {
		t.Fatalf("P8: its number is %d", k)
	}
	cutOf(t, e, api.Sample{Series: 1, Time: 2, Value: 2})
	put(t, e, api.Sample{Series: 1, Time: 3, Value: 3})
	if k := snap(t, e); k != 4 {
		t.Fatalf("P8: its number is %d", k)
	}
	return e
}

func TestManifest(t *testing.T) {
	e := shots(t)
	first := manifestOf("b0.0", one(0, 0, 1, 1))
	second := manifestOf("b0.0", one(0, 0, 1, 1), "b1.1", one(1, 1, 2, 2), "b5.5", one(5, 5, 3, 3))
	wantManifest(t, e, 2, first)
	wantManifest(t, e, 4, second)
	for _, k := range []int{0, 1, 3, 5, 6, 20, -1, -2, -4, least, greatest} {
		if got, err := e.Manifest(k); got != "" || err != api.ErrSnapshot {
			t.Errorf("P11: Manifest(%d) = %q, %d", k, got, err)
		}
		for _, base := range []string{"", first, "nonsense"} {
			if got, err := e.Backup(k, base); got != "" || err != api.ErrSnapshot {
				t.Errorf("P12: Backup(%d, %q) = %x, %d", k, base, got, err)
			}
		}
	}
	// What they are made of is compacted, and they stay what they are.
	compact(t, e)
	wantManifest(t, e, 2, first)
	wantManifest(t, e, 4, second)
	again := openFiles(t, e.Files(), quiet)
	wantManifest(t, again, 2, first)
	wantManifest(t, again, 4, second)
	for _, base := range []string{"", first, second} {
		want, _ := e.Backup(4, base)
		wantArchive(t, "P11: opened", again, 4, base, want)
	}
}

// TestManifestOfWhatIsNotComplete: it is removed when the engine is opened.
func TestManifestOfWhatIsNotComplete(t *testing.T) {
	x := one(0, 0, 1, 1)
	m := manifestOf("b0.0", x)
	e := openFiles(t, files("s1.m", m, "s2.m", m, "s2.b0.0", x, "s3.m", "silo", "s04.m", "silo\n", "s5.b0.0", x), quiet)
	wantManifest(t, e, 2, m)
	for _, k := range []int{0, 1, 3, 4, 5} {
		if got, err := e.Manifest(k); got != "" || err != api.ErrSnapshot {
			t.Errorf("P11: Manifest(%d) = %q, %d", k, got, err)
		}
	}
}

func TestBackup(t *testing.T) {
	e := shots(t)
	x, y, z := one(0, 0, 1, 1), one(1, 1, 2, 2), one(5, 5, 3, 3)
	first, second := manifestOf("b0.0", x), manifestOf("b0.0", x, "b1.1", y, "b5.5", z)
	hash := strings.Fields(modelLine("b1.1", y))[2]
	for why, c := range map[string]struct {
		snapshot int
		base     string
		manifest string
		files    []string
	}{
		"no base":                    {4, "", second, []string{x, y, z}},
		"no base, the first":         {2, "", first, []string{x}},
		"another snapshot's":         {4, first, second, []string{y, z}},
		"a later one's":              {2, second, first, nil},
		"its own":                    {4, second, second, nil},
		"a manifest of nothing":      {4, "silo\n", second, []string{x, y, z}},
		"no snapshot's":              {4, manifestOf("b1.1", y, "b7.9", x), second, []string{x, z}},
		"the same with another file": {4, manifestOf("b0.0", x, "b1.1", "any"), second, []string{y, z}},
		"another hash":               {4, strings.Replace(second, hash, "0123456789abcdef", 1), second, []string{y}},
		"another length":             {2, strings.Replace(first, "b0.0 ", "b0.0 1", 1), first, []string{x}},
		"another name":               {2, strings.Replace(first, "b0.0", "b0.1", 1), first, []string{x}},
	} {
		wantArchive(t, "P12: "+why, e, c.snapshot, c.base, modelArchive(c.base, c.manifest, c.files...))
	}
}

func TestBackupOfWrongBases(t *testing.T) {
	e := shots(t)
	m, _ := e.Manifest(4)
	lines := strings.SplitAfter(m, "\n")
	before := e.Files()
	for why, base := range map[string]string{
		"nonsense":            "nonsense",
		"a blank":             " ",
		"a line's end":        "\n",
		"no end":              "silo",
		"no last end":         strings.TrimSuffix(m, "\n"),
		"an empty line":       m + "\n",
		"no first line":       strings.TrimPrefix(m, "silo\n"),
		"the first one twice": "silo\n" + m,
		"lines turned round":  lines[0] + lines[2] + lines[1],
		"a line twice":        lines[0] + lines[1] + lines[1],
		"in capitals":         strings.ToUpper(m),
		"with returns":        strings.ReplaceAll(m, "\n", "\r\n"),
		"two blanks":          strings.Replace(m, " ", "  ", 1),
		"ranges that meet":    manifestOf("b0.3", "x", "b3.4", "x"),
		"a number above":      manifestOf("b0.1000000", "x"),
		"an archive":          modelArchive("", m),
	} {
		if got, err := e.Backup(4, base); got != "" || err != api.ErrChain {
			t.Errorf("P12: %s: Backup = %x, %d", why, got, err)
		}
	}
	if got := e.Files(); !slices.Equal(got, before) {
		t.Errorf("P1: Backup changed the files: %q", got)
	}
}
