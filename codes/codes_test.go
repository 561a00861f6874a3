package codes

import (
	"encoding/binary"
	"hash/fnv"
	"math"
	"testing"

	"silo/api"
)

// edges: numbers at and beside each place where a code grows by a byte.
func edges() []uint64 {
	out := []uint64{0, 1, 300, math.MaxUint64, math.MaxUint64 - 1}
	for shift := 7; shift < 64; shift += 7 {
		n := uint64(1) << shift
		out = append(out, n-1, n, n+1)
	}
	return out
}

func TestCodesOfTheDocument(t *testing.T) {
	for n, want := range map[uint64]string{0: "\x00", 127: "\x7f", 128: "\x80\x01", 300: "\xac\x02"} {
		if got := string(Append(nil, n)); got != want {
			t.Errorf("the code of %d is %x, want %x", n, got, want)
		}
	}
	for n, want := range map[int]string{-1: "\x01", 1: "\x02", -64: "\x7f", 0: "\x00"} {
		if got := string(Append(nil, FromSigned(n))); got != want {
			t.Errorf("the code of the signed %d is %x, want %x", n, got, want)
		}
	}
}

func TestAppendAgainstUvarint(t *testing.T) {
	for _, n := range edges() {
		want := string(binary.AppendUvarint([]byte("x"), n))
		if got := string(Append([]byte("x"), n)); got != want {
			t.Errorf("Append(x, %d) = %x, want %x", n, got, want)
		}
	}
}

func TestSignedBothWays(t *testing.T) {
	for _, c := range []struct {
		n    int
		want uint64
	}{
		{0, 0}, {-1, 1}, {1, 2}, {-2, 3}, {math.MaxInt, math.MaxUint64 - 1}, {math.MinInt, math.MaxUint64}, {math.MinInt + 1, math.MaxUint64 - 2},
	} {
		if got := FromSigned(c.n); got != c.want {
			t.Errorf("FromSigned(%d) = %d, want %d", c.n, got, c.want)
		}
		if got := ToSigned(c.want); got != c.n {
			t.Errorf("ToSigned(%d) = %d, want %d", c.want, got, c.n)
		}
	}
}

func TestHash(t *testing.T) {
	if Hash("") != api.Basis || Hash("a") != 0xaf63dc4c8601ec8c {
		t.Errorf("hashes: %x, %x", Hash(""), Hash("a"))
	}
	for _, s := range []string{"a", "\x00", "\xff\x80 silo\n"} {
		h := fnv.New64a()
		h.Write([]byte(s))
		if Hash(s) != h.Sum64() || HashBytes(Hash(s)) != string(h.Sum(nil)) {
			t.Errorf("the hash of %q is %x, want %x", s, Hash(s), h.Sum64())
		}
	}
}

func TestSeal(t *testing.T) {
	if got := Sealed("a"); got != "a\xaf\x63\xdc\x4c\x86\x01\xec\x8c" {
		t.Errorf("Sealed(a) = %x", got)
	}
	for _, s := range []string{"", "a", "\x00\x00"} {
		if got, ok := Unsealed(Sealed(s)); got != s || !ok {
			t.Errorf("Unsealed(Sealed(%q)) = %q, %t", s, got, ok)
		}
	}
	good := Sealed("ab")
	for i := range len(good) {
		turned := good[:i] + string([]byte{good[i] ^ 1}) + good[i+1:]
		for _, s := range []string{good[:i], turned} {
			if got, ok := Unsealed(s); got != "" || ok {
				t.Errorf("Unsealed(%x) = %x, %t", s, got, ok)
			}
		}
	}
}

func TestReaderReadsWhatAppendWrote(t *testing.T) {
	var data []byte
	for _, n := range edges() {
		data = Append(data, n)
	}
	r := NewReader(string(data))
	for _, n := range edges() {
		if got := r.Code(); got != n || r.Failed() {
			t.Errorf("Code() = %d, %t, want %d", got, r.Failed(), n)
		}
	}
	if !r.Done() || r.Left() != 0 {
		t.Errorf("behind all codes: %t, %d left", r.Done(), r.Left())
	}
}

func TestReaderRefuses(t *testing.T) {
	for why, data := range map[string]string{
		"nothing":     "",
		"no end":      "\x80",
		"too long":    "\x80\x00",
		"long 1":      "\x81\x80\x00",
		"65 bits":     "\xff\xff\xff\xff\xff\xff\xff\xff\xff\x02",
		"ten noughts": "\x80\x80\x80\x80\x80\x80\x80\x80\x80\x00",
		"11 bytes":    "\xff\xff\xff\xff\xff\xff\xff\xff\xff\xff\x01",
		"11 at 1":     "\xff\xff\xff\xff\xff\xff\xff\xff\xff\x81\x00",
	} {
		r := NewReader(data)
		if n := r.Code(); n != 0 || !r.Failed() || r.Done() {
			t.Errorf("%s: Code() = %d, failed %t, done %t", why, n, r.Failed(), r.Done())
		}
	}
}

func TestReaderStaysFailed(t *testing.T) {
	r := NewReader("\x05\x06\x07")
	if n := r.Code(); n != 5 || r.Left() != 2 || r.Done() {
		t.Errorf("Code() = %d, %d left, done %t", n, r.Left(), r.Done())
	}
	r.Fail()
	if n := r.Code(); n != 0 || r.Left() != 0 || !r.Failed() || r.Done() {
		t.Errorf("behind Fail: Code() = %d, %d left, failed %t, done %t", n, r.Left(), r.Failed(), r.Done())
	}
}

func TestBytes(t *testing.T) {
	r := NewReader("abc")
	if got := r.Bytes(0); got != "" || r.Failed() || r.Left() != 3 {
		t.Errorf("Bytes(0) = %q", got)
	}
	if got := r.Bytes(2); got != "ab" || r.Failed() || r.Left() != 1 {
		t.Errorf("Bytes(2) = %q", got)
	}
	if got := r.Bytes(1); got != "c" || !r.Done() {
		t.Errorf("Bytes(1) = %q", got)
	}
	if got := r.Bytes(0); got != "" || !r.Done() {
		t.Errorf("Bytes(0) at the end = %q", got)
	}
	for _, n := range []uint64{4, 1 << 31, 1 << 63, math.MaxUint64} {
		r := NewReader("abc")
		if got := r.Bytes(n); got != "" || !r.Failed() || r.Left() != 0 {
			t.Errorf("Bytes(%d) = %q, failed %t", n, got, r.Failed())
		}
	}
}
