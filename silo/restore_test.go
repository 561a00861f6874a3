package silo_test

import (
	"math/rand"
	"slices"
	"strings"
	"testing"
	"unsafe"

	"silo/api"
	"silo/silo"
)

func wantRestored(t *testing.T, why string, archives []string, want ...string) {
	t.Helper()
	if got, err := silo.Restore(archives); !slices.Equal(got, files(want...)) || err != api.OK {
		t.Errorf("P13: %s: Restore = %q, %d, want %q", why, got, err, files(want...))
	}
}

func wantNoChain(t *testing.T, why string, archives ...string) {
	t.Helper()
	if got, err := silo.Restore(archives); len(got) != 0 || err != api.ErrChain {
		t.Errorf("P13: %s: Restore(%q) = %q, %d", why, archives, got, err)
	}
}

func TestRestoreOfOneArchive(t *testing.T) {
	x, y, z := one(0, 0, 1, 1), one(2, 10, 2, 2), one(11, 11, 3, 3)
	wantRestored(t, "of nothing", []string{modelArchive("", "silo\n")})
	wantRestored(t, "of a block", []string{modelArchive("", manifestOf("b0.0", x), x)}, "b0.0", x)
	// By rising lo, not by rising names.
	wantRestored(t, "of three", []string{modelArchive("", manifestOf("b0.0", x, "b2.10", y, "b11.11", z), x, y, z)}, "b0.0", x, "b2.10", y, "b11.11", z)
	long := modelFile(0, 0, anySamples(rand.New(rand.NewSource(1)), 900))
	wantRestored(t, "of a long one", []string{modelArchive("", manifestOf("b0.0", long), long)}, "b0.0", long)
}

func TestRestoreOfAChain(t *testing.T) {
	x, y, z := one(0, 0, 1, 1), one(1, 1, 2, 2), one(2, 2, 3, 3)
	other := one(1, 1, 2, 99)
	xy := one(0, 1, 5, 5)
	m1, m2, m3 := manifestOf("b0.0", x), manifestOf("b0.0", x, "b1.1", y), manifestOf("b0.1", xy, "b2.2", z)
	a1, a2, a3 := modelArchive("", m1, x), modelArchive(m1, m2, y), modelArchive(m2, m3, xy, z)
	wantRestored(t, "one", []string{a1}, "b0.0", x)
	wantRestored(t, "two", []string{a1, a2}, "b0.0", x, "b1.1", y)
	wantRestored(t, "three", []string{a1, a2, a3}, "b0.1", xy, "b2.2", z)
	wantRestored(t, "nothing is new", []string{a1, a2, modelArchive(m2, m2), modelArchive(m2, m1)}, "b0.0", x)
	wantRestored(t, "a block of the same name", []string{a1, a2, modelArchive(m2, manifestOf("b0.0", x, "b1.1", other), other)}, "b0.0", x, "b1.1", other)
	// What the manifest just ahead has not is shipped again.
	back := modelArchive(m3, m2, x, y)
	wantRestored(t, "back again", []string{a1, a2, a3, back}, "b0.0", x, "b1.1", y)
	wantNoChain(t, "not shipped again", a1, a2, a3, modelArchive(m3, m2))
	wantNoChain(t, "shipped though it is there", a1, modelArchive(m1, m2, x, y))
	wantRestored(t, "of nothing, then of something", []string{modelArchive("", "silo\n"), modelArchive("silo\n", m1, x)}, "b0.0", x)
	wantRestored(t, "of something, then of nothing", []string{a1, modelArchive(m1, "silo\n")})
	for why, archives := range map[string][]string{
		"the second alone":      {a2},
		"without the first":     {a2, a3},
		"without the second":    {a1, a3},
		"turned round":          {a2, a1},
		"the last two turned":   {a1, a3, a2},
		"the first twice":       {a1, a1},
		"the second twice":      {a1, a2, a2},
		"a whole one behind":    {a1, modelArchive("", m2, x, y)},
		"a base ahead of it":    {a1, a2, modelArchive(m1, m3, xy, z)},
		"an empty one at last":  {a1, a2, ""},
		"an empty one between":  {a1, "", a2},
		"a wrong one at last":   {a1, a2, a3[:len(a3)-1]},
		"its own base":          {modelArchive(m1, m1, x)},
		"another's hash":        {a1, modelArchive("x", m2, y)},
		"a base of one nought":  {sealed("A" + "\x01" + noughts[1:] + part(m1) + part(x))},
		"a wrong one at first":  {a1 + "x", a2},
		"a wrong file in a2":    {a1, modelArchive(m1, m2, other)},
		"a wrong place in a3":   {a1, a2, modelArchive(m2, m3, z, xy)},
		"a file too many in a2": {a1, modelArchive(m1, m2, y, z)},
		"a file too few in a3":  {a1, a2, modelArchive(m2, m3, xy)},
	} {
		wantNoChain(t, why, archives...)
	}
}

func TestRestoreOfWhatIsNoArchive(t *testing.T) {
	wantNoChain(t, "nothing")
	if got, err := silo.Restore([]string{}); len(got) != 0 || err != api.ErrChain {
		t.Errorf("P13: of an empty list: %q, %d", got, err)
	}
	x, y := one(0, 0, 1, 1), one(2, 3, 2, 2)
	m := manifestOf("b0.0", x, "b2.3", y)
	body := "A" + noughts + part(m) + part(x) + part(y)
	wantRestored(t, "as it should be", []string{sealed(body)}, "b0.0", x, "b2.3", y)
	head := "A" + noughts
	for why, archive := range map[string]string{
		"an empty one":              "",
		"a hash alone":              sealed(""),
		"not sealed":                body,
		"a byte more":               sealed(body) + "x",
		"a byte less":               sealed(body)[:len(body)+7],
		"another letter":            sealed("B" + body[1:]),
		"a short base":              sealed("A" + noughts[1:]),
		"no manifest":               sealed(head),
		"an empty manifest":         sealed(head + part("")),
		"a long code":               sealed(head + "\x85\x00silo\n"),
		"half a manifest":           sealed(head + "\x06silo\n"),
		"a manifest without end":    sealed(head + part("silo")),
		"a manifest of 2^63 bytes":  sealed(head + "\x80\x80\x80\x80\x80\x80\x80\x80\x80\x01silo\n"),
		"a manifest of 2^64 - 1":    sealed(head + "\xff\xff\xff\xff\xff\xff\xff\xff\xff\x01silo\n"),
		"no files":                  sealed(head + part(m)),
		"a file less":               sealed(head + part(m) + part(x)),
		"a file more":               sealed(body + part(x)),
		"an empty file more":        sealed(body + part("")),
		"half a file more":          sealed(body + "\x05x"),
		"files turned round":        sealed(head + part(m) + part(y) + part(x)),
		"a file twice":              sealed(head + part(m) + part(x) + part(x)),
		"a file behind a long code": sealed(head + part(manifestOf("b0.0", x)) + string([]byte{byte(len(x)) | 128, 0}) + x),
		"a file of 2^64 - 1 bytes":  sealed(head + part(manifestOf("b0.0", x)) + "\xff\xff\xff\xff\xff\xff\xff\xff\xff\x01" + x),
		"lines turned round":        modelArchive("", manifestOf("b2.3", y, "b0.0", x), y, x),
		"ranges that meet":          modelArchive("", manifestOf("b0.2", one(0, 2, 1, 1), "b2.3", y), one(0, 2, 1, 1), y),
		"no block":                  modelArchive("", manifestOf("b0.0", "x"), "x"),
		"an empty block":            modelArchive("", manifestOf("b0.0", ""), ""),
		"another lo":                modelArchive("", manifestOf("b1.3", y), y),
		"another hi":                modelArchive("", manifestOf("b2.4", y), y),
		"another length":            modelArchive("", strings.Replace(manifestOf("b0.0", x), "b0.0 ", "b0.0 1", 1), x),
		"another hash":              modelArchive("", manifestOf("b0.0", one(0, 0, 1, 2)), x),
	} {
		wantNoChain(t, why, archive)
		wantNoChain(t, why+", and a right one behind", archive, modelArchive(m, m))
	}
}

// chainOf: a drawn chain of archives.
func chainOf(r *rand.Rand) []string {
	var out []string
	base := ""
	have := map[string]bool{}
	for range 1 + r.Intn(3) {
		manifest := "silo\n"
		var shipped []string
		now := map[string]bool{}
		lo := 0
		for range r.Intn(3) {
			hi := lo + r.Intn(2)
			file := one(lo, hi, 1, uint64(r.Intn(2)))
			line := modelLine(modelBlock{lo: lo, hi: hi}.name(), file)
			manifest += line
			now[line] = true
			if !have[line] {
				shipped = append(shipped, file)
			}
			lo = hi + 1
		}
		out = append(out, modelArchive(base, manifest, shipped...))
		base, have = manifest, now
	}
	return out
}

// spoiltChain: with an archive left out, put twice, put elsewhere, or turned at
// a byte, with a right hash or not.
func spoiltChain(r *rand.Rand, chain []string) []string {
	i := r.Intn(len(chain))
	switch r.Intn(5) {
	case 0:
		return slices.Delete(chain, i, i+1)
	case 1:
		return slices.Insert(chain, i, chain[r.Intn(len(chain))])
	case 2:
		k := r.Intn(len(chain))
		chain[i], chain[k] = chain[k], chain[i]
		return chain
	}
	body := []byte(chain[i][:len(chain[i])-8])
	body[r.Intn(len(body))] ^= 1 << r.Intn(8)
	if chain[i] = sealed(string(body)); r.Intn(4) == 0 {
		chain[i] = string(body)
	}
	return chain
}

func TestRestoreAgainstTheModel(t *testing.T) {
	count := map[api.Errno]int{}
	for seed := range int64(6000) {
		r := rand.New(rand.NewSource(seed))
		chain := chainOf(r)
		if r.Intn(2) == 0 {
			chain = spoiltChain(r, chain)
		}
		before := slices.Clone(chain)
		got, err := silo.Restore(chain)
		want, wantErr := modelRestore(before)
		if !slices.Equal(got, want) || err != wantErr {
			t.Fatalf("P13: seed %d: Restore(%q) = %q, %d, want %q, %d", seed, before, got, err, want, wantErr)
		}
		if !slices.Equal(chain, before) {
			t.Fatalf("P2: Restore wrote into %q", before)
		}
		count[err]++
	}
	if count[api.OK] < 3000 || count[api.ErrChain] < 1000 {
		t.Errorf("what was drawn is too much alike: %v", count)
	}
}

// within: whether bytes lie in the memory of others.
func within(inner, outer string) bool {
	if inner == "" || outer == "" {
		return false
	}
	from, at := uintptr(unsafe.Pointer(unsafe.StringData(outer))), uintptr(unsafe.Pointer(unsafe.StringData(inner)))
	return from <= at && at < from+uintptr(len(outer))
}

func TestRestoreAnswersNewMemory(t *testing.T) {
	x, y := one(0, 0, 1, 1), one(1, 1, 2, 2)
	m := manifestOf("b0.0", x)
	archives := []string{modelArchive("", m, x), modelArchive(m, manifestOf("b0.0", x, "b1.1", y), y)}
	first, _ := silo.Restore(archives)
	second, _ := silo.Restore(archives)
	for i := range first {
		for _, text := range []string{first[i].Name, first[i].Data} {
			for _, other := range append(slices.Clone(archives), second[i].Name, second[i].Data) {
				if within(text, other) {
					t.Errorf("P2: %q is kept in memory of others", text)
				}
			}
		}
	}
	room := first[:cap(first)]
	for i := range room {
		room[i] = api.File{Name: "mark"}
	}
	if !slices.Equal(second, files("b0.0", x, "b1.1", y)) || slices.Contains(second[:cap(second)], api.File{Name: "mark"}) {
		t.Errorf("P2: two answers share memory: %q", second)
	}
	wantRestored(t, "behind what was written into an answer", archives, "b0.0", x, "b1.1", y)
}

func FuzzRestore(f *testing.F) {
	x := one(0, 0, 1, 1)
	m := manifestOf("b0.0", x)
	f.Add("A"+noughts+part(m)+part(x), "A"+hashBytes(m)+part(m))
	f.Fuzz(func(t *testing.T, a, b string) {
		for _, archives := range [][]string{{a}, {a, b}, {sealed(a)}, {sealed(a), sealed(b)}} {
			got, err := silo.Restore(archives)
			want, wantErr := modelRestore(archives)
			if !slices.Equal(got, want) || err != wantErr {
				t.Errorf("P13: Restore(%q) = %q, %d, want %q, %d", archives, got, err, want, wantErr)
			}
		}
	})
}
