package chains

import (
	"encoding/binary"
	"hash/fnv"
	"slices"
	"strings"
	"testing"
)

func sealed(body string) string {
	h := fnv.New64a()
	h.Write([]byte(body))
	return body + string(h.Sum(nil))
}

// part: bytes behind the code of their length.
func part(s string) string {
	return string(binary.AppendUvarint(nil, uint64(len(s)))) + s
}

func TestBaseOf(t *testing.T) {
	if got := BaseOf(""); got != "\x00\x00\x00\x00\x00\x00\x00\x00" {
		t.Errorf("BaseOf of none = %x", got)
	}
	if got := BaseOf("a"); got != "\xaf\x63\xdc\x4c\x86\x01\xec\x8c" {
		t.Errorf("BaseOf(a) = %x", got)
	}
}

func TestArchivesBothWays(t *testing.T) {
	long := strings.Repeat("x", 300)
	for _, a := range []Archive{
		{Base: noBase, Manifest: "silo\n"},
		{Base: "12345678", Manifest: ""},
		{Base: noBase, Manifest: long, Files: []string{"a", "", long, "\x00"}},
		{Base: noBase, Manifest: "m", Files: []string{""}},
	} {
		want := "A" + a.Base + part(a.Manifest)
		for _, file := range a.Files {
			want += part(file)
		}
		got := a.Encode()
		if got != sealed(want) {
			t.Errorf("%q is %x, want %x", a, got, sealed(want))
		}
		back, ok := Decode(got)
		if back.Base != a.Base || back.Manifest != a.Manifest || !slices.Equal(back.Files, a.Files) || !ok {
			t.Errorf("Decode(%x) = %q, %t", got, back, ok)
		}
	}
}

func TestDecodeOfOthers(t *testing.T) {
	for why, body := range map[string]string{
		"nothing":                         "",
		"A alone":                         "A",
		"another letter":                  "B" + noBase + part("m"),
		"a small a":                       "a" + noBase + part("m"),
		"seven bytes of a base":           "A" + noBase[1:],
		"no manifest":                     "A" + noBase,
		"half a manifest":                 "A" + noBase + "\x02m",
		"a manifest behind a long code":   "A" + noBase + "\x81\x00m",
		"a code without an end":           "A" + noBase + "\x80",
		"half a file":                     "A" + noBase + part("m") + "\x02x",
		"a file behind a long code":       "A" + noBase + part("m") + "\x81\x00x",
		"a file's code without an end":    "A" + noBase + part("m") + "\x80",
		"a manifest of 2^64 - 1 bytes":    "A" + noBase + "\xff\xff\xff\xff\xff\xff\xff\xff\xff\x01m",
		"a file of 2^63 bytes":            "A" + noBase + part("m") + "\x80\x80\x80\x80\x80\x80\x80\x80\x80\x01x",
		"a file of more than 64 bits":     "A" + noBase + part("m") + "\xff\xff\xff\xff\xff\xff\xff\xff\xff\x02x",
		"a second file that is not there": "A" + noBase + part("m") + part("x") + "\x01",
	} {
		if a, ok := Decode(sealed(body)); ok || a.Base != "" || a.Manifest != "" || a.Files != nil {
			t.Errorf("%s: %q, %t", why, a, ok)
		}
	}
	good := Archive{Base: noBase, Manifest: "m", Files: []string{"x"}}.Encode()
	for i := range len(good) {
		turned := []byte(good)
		turned[i] ^= 4
		for _, s := range []string{good[:i], good[i+1:], string(turned), good[:i] + "\x00" + good[i:]} {
			if _, ok := Decode(s); ok {
				t.Errorf("Decode(%x), of %x turned", s, good)
			}
		}
	}
	if _, ok := Decode(good + "x"); ok {
		t.Error("a byte more is an archive")
	}
}
