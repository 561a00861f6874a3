package snapshots

import (
	"slices"
	"strings"
	"testing"

	"silo/blocks"
)

const (
	hashOfNothing = "cbf29ce484222325"
	hashOfA       = "af63dc4c8601ec8c"
)

func line(lo, hi int, file string) Line { return LineOf(blocks.Range{Lo: lo, Hi: hi}, file) }

func TestLinesBothWays(t *testing.T) {
	for text, lines := range map[string][]Line{
		"silo\n":                                 nil,
		"silo\nb0.0 0 " + hashOfNothing + "\n":   {line(0, 0, "")},
		"silo\nb3.10 1 " + hashOfA + "\n":        {line(3, 10, "a")},
		"silo\nb9.9 1 000000000000000a\n":        {{Range: blocks.Range{Lo: 9, Hi: 9}, Size: 1, Hash: 10}},
		"silo\nb0.999999 0 0000000000000000\n":   {{Range: blocks.Range{Lo: 0, Hi: 999999}}},
		"silo\nb1.1 999999999 " + hashOfA + "\n": {{Range: blocks.Range{Lo: 1, Hi: 1}, Size: 999999999, Hash: 0xaf63dc4c8601ec8c}},
		"silo\nb0.2 1 " + hashOfA + "\nb3.3 0 " + hashOfNothing + "\nb10.11 1 " + hashOfA + "\n": {line(0, 2, "a"), line(3, 3, ""), line(10, 11, "a")},
	} {
		if got := Manifest(lines); got != text {
			t.Errorf("Manifest(%v) = %q, want %q", lines, got, text)
		}
		if got, ok := Lines(text); !slices.Equal(got, lines) || !ok {
			t.Errorf("Lines(%q) = %v, %t", text, got, ok)
		}
	}
}

func TestLinesOfWhatIsNotRight(t *testing.T) {
	const tail = " 1 " + hashOfA + "\n"
	for why, text := range map[string]string{
		"nothing":                      "",
		"no end of the first line":     "silo",
		"a line alone":                 "b0.0" + tail,
		"another first line":           "Silo\n",
		"a blank in the first line":    "silo \n",
		"a carriage return":            "silo\r\n",
		"something ahead":              "\nsilo\n",
		"the first line twice":         "silo\nsilo\n",
		"an empty line":                "silo\n\n",
		"an empty line between":        "silo\nb0.0" + tail + "\nb1.1" + tail,
		"an empty line behind":         "silo\nb0.0" + tail + "\n",
		"no end":                       "silo\nb0.0 1 " + hashOfA,
		"a carriage return at the end": "silo\nb0.0 1 " + hashOfA + "\r\n",
		"a name alone":                 "silo\nb0.0\n",
		"no hash":                      "silo\nb0.0 1\n",
		"an empty hash":                "silo\nb0.0 1 \n",
		"four parts":                   "silo\nb0.0 1 " + hashOfA + " x\n",
		"a blank behind":               "silo\nb0.0 1 " + hashOfA + " \n",
		"a blank ahead":                "silo\n b0.0" + tail,
		"two blanks":                   "silo\nb0.0  1 " + hashOfA + "\n",
		"two blanks ahead of the hash": "silo\nb0.0 1  " + hashOfA + "\n",
		"a tab":                        "silo\nb0.0\t1 " + hashOfA + "\n",
		"no name of a block":           "silo\nw0" + tail,
		"lo with a 0 ahead":            "silo\nb00.0" + tail,
		"hi with a 0 ahead":            "silo\nb0.00" + tail,
		"lo above hi":                  "silo\nb1.0" + tail,
		"hi above 999999":              "silo\nb0.1000000" + tail,
		"lo below 0":                   "silo\nb-1.0" + tail,
		"a length with a 0 ahead":      "silo\nb0.0 01 " + hashOfA + "\n",
		"a length with a sign":         "silo\nb0.0 +1 " + hashOfA + "\n",
		"a length below 0":             "silo\nb0.0 -1 " + hashOfA + "\n",
		"a length of 10 digits":        "silo\nb0.0 1000000000 " + hashOfA + "\n",
		"a length of many digits":      "silo\nb0.0 18446744073709551617 " + hashOfA + "\n",
		"no length":                    "silo\nb0.0  " + hashOfA + "\n",
		"a hash of 15 digits":          "silo\nb0.0 1 " + hashOfA[1:] + "\n",
		"a hash of 17 digits":          "silo\nb0.0 1 0" + hashOfA + "\n",
		"a hash in capitals":           "silo\nb0.0 1 " + strings.ToUpper(hashOfA) + "\n",
		"a hash with another letter":   "silo\nb0.0 1 g" + hashOfA[1:] + "\n",
		"a hash of a sign":             "silo\nb0.0 1 +" + hashOfA[1:] + "\n",
		"a range twice":                "silo\nb0.0" + tail + "b0.0" + tail,
		"ranges that fall":             "silo\nb1.1" + tail + "b0.0" + tail,
		"ranges that meet":             "silo\nb0.2" + tail + "b2.3" + tail,
		"a range in another":           "silo\nb0.9" + tail + "b3.4" + tail,
		"a third below the first":      "silo\nb5.6" + tail + "b8.8" + tail + "b0.1" + tail,
		"a third that meets the first": "silo\nb0.9" + tail + "b10.10" + tail + "b9.11" + tail,
	} {
		if got, ok := Lines(text); got != nil || ok {
			t.Errorf("%s: Lines(%q) = %v, %t", why, text, got, ok)
		}
	}
}

// TestLinesOfTurnedBytes: what is right is what Manifest writes of it.
func TestLinesOfTurnedBytes(t *testing.T) {
	good := Manifest([]Line{line(0, 2, "a"), line(5, 17, "")})
	some := "\n 0129absm.-\x00"
	for i := range len(good) {
		for k := range len(some) {
			for _, text := range []string{good[:i] + some[k:k+1] + good[i+1:], good[:i] + some[k:k+1] + good[i:], good[:i] + good[i+1:], good[:i]} {
				if lines, ok := Lines(text); ok && Manifest(lines) != text {
					t.Errorf("Lines(%q) = %v", text, lines)
				}
			}
		}
	}
}

func TestFits(t *testing.T) {
	l := line(3, 4, "a")
	if !l.Fits("a") || l.Fits("b") || l.Fits("") || l.Fits("aa") {
		t.Errorf("%v fits otherwise", l)
	}
	l.Size = 2
	if l.Fits("a") {
		t.Error("a file of another length fits")
	}
}

func TestFresh(t *testing.T) {
	a, b, c := line(0, 0, "a"), line(1, 1, "b"), line(2, 2, "c")
	other := line(1, 1, "x")
	for _, x := range []struct{ lines, base, want []Line }{
		{nil, nil, nil}, {nil, []Line{a}, nil}, {[]Line{a, b}, nil, []Line{a, b}}, {[]Line{a, b, c}, []Line{b}, []Line{a, c}}, {[]Line{a, b}, []Line{a, b, c}, nil}, {[]Line{a, b, c}, []Line{a, other}, []Line{b, c}}, {[]Line{c}, []Line{line(2, 3, "c")}, []Line{c}},
	} {
		lines, base := slices.Clone(x.lines), slices.Clone(x.base)
		if got := Fresh(lines, base); !slices.Equal(got, x.want) || !slices.Equal(lines, x.lines) || !slices.Equal(base, x.base) {
			t.Errorf("Fresh(%v, %v) = %v, want %v", x.lines, x.base, got, x.want)
		}
	}
}
