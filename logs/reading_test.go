package logs

import (
	"math"
	"math/rand"
	"slices"
	"strings"
	"testing"

	"silo/api"
)

func TestFromName(t *testing.T) {
	for name, want := range map[string]int{"w0": 0, "w7": 7, "w10": 10, "w999999": 999999} {
		if got, ok := FromName(name); got != want || !ok {
			t.Errorf("FromName(%q) = %d, %t", name, got, ok)
		}
	}
	for _, name := range []string{"", "w", "0", "W0", "w00", "w01", "w-1", "w-0", "w+1", "w1000000", "w9223372036854775808", "w1.m", "w1 ", " w1", "w1\n", "ww1", "b0.0", "s1.m", "wx"} {
		if got, ok := FromName(name); got != 0 || ok {
			t.Errorf("FromName(%q) = %d, %t", name, got, ok)
		}
	}
}

func wantRead(t *testing.T, why string, log string, want []api.Sample, size int) {
	t.Helper()
	if got, n, ok := Read(log); !slices.Equal(got, want) || n != size || !ok {
		t.Errorf("%s: Read(%x) = %v, %d, %t, want %v, %d", why, log, got, n, ok, want, size)
	}
}

func anyBatch(r *rand.Rand) []api.Sample {
	var batch []api.Sample
	for range 1 + r.Intn(8) {
		batch = append(batch, api.Sample{Series: r.Intn(16), Time: int(r.Uint64()) >> r.Intn(64), Value: r.Uint64() >> r.Intn(64)})
	}
	return batch
}

func TestReadOfWhatFrameWrote(t *testing.T) {
	r := rand.New(rand.NewSource(1))
	for range 300 {
		var log string
		var want []api.Sample
		for range r.Intn(5) {
			batch := anyBatch(r)
			log += Frame(batch)
			want = append(want, batch...)
		}
		wantRead(t, "drawn", log, want, len(log))
	}
	edge := []api.Sample{{Series: 15, Time: math.MinInt, Value: math.MaxUint64}, {Series: 0, Time: math.MaxInt, Value: 0}}
	wantRead(t, "the edges", Frame(edge)+Frame(longBatch()), append(edge, longBatch()...), len(Frame(edge))+len(Frame(longBatch())))
}

func TestReadEndsAtWhatIsNoFrame(t *testing.T) {
	one, two := []api.Sample{{Series: 1, Time: 2, Value: 3}}, []api.Sample{{Series: 4, Time: -5, Value: 600}, {Series: 4}}
	first, second := Frame(one), Frame(two)
	for i := range len(second) {
		wantRead(t, "half a frame", first+second[:i], one, len(first))
		turned := []byte(second)
		turned[i] ^= 1
		wantRead(t, "a bit turned", first+string(turned), one, len(first))
		wantRead(t, "what is behind it is not read", first+string(turned)+second, one, len(first))
	}
	for why, tail := range map[string]string{
		"another letter":             sealed("G\x03\x01\x14\x14"),
		"a length in a long code":    sealed("F\x83\x00\x01\x14\x14"),
		"a length above all":         "F\xff\xff\xff\xff\xff\xff\xff\xff\xff\x01" + strings.Repeat("x", 40),
		"a length of 2^63":           "F\x80\x80\x80\x80\x80\x80\x80\x80\x80\x01" + strings.Repeat("x", 40),
		"a length above 64 bits":     "F\xff\xff\xff\xff\xff\xff\xff\xff\xff\x02" + strings.Repeat("x", 40),
		"a payload that is too long": sealed("F\x02\x01\x14\x14"),
		"a payload too short":        sealed("F\x04\x01\x14\x14"),
		"F alone":                    "F",
		"a blank ahead":              " " + second,
	} {
		wantRead(t, why, first+tail, one, len(first))
		wantRead(t, why, tail, nil, 0)
	}
}

func TestReadOfPayloadsThatAreNone(t *testing.T) {
	good := Frame([]api.Sample{{Series: 1, Time: 2, Value: 3}})
	for why, payload := range map[string]string{
		"nothing":                 "",
		"a series":                "\x01",
		"no value":                "\x01\x02",
		"a sample and a half":     "\x01\x02\x03\x01",
		"a sample and two thirds": "\x01\x02\x03\x01\x02",
		"series 16":               "\x10\x00\x00",
		"a series of 2^64 - 1":    "\xff\xff\xff\xff\xff\xff\xff\xff\xff\x01\x00\x00",
		"a series of 2^32":        "\x80\x80\x80\x80\x10\x00\x00",
		"series 16 behind":        "\x01\x02\x03\x10\x02\x03",
		"nine samples":            strings.Repeat("\x01\x00\x00", 9),
		"eight and a byte":        strings.Repeat("\x01\x00\x00", 8) + "\x00",
		"a series in a long code": "\x81\x00\x00\x00",
		"a time in a long code":   "\x01\x80\x00\x00",
		"a value in a long code":  "\x01\x00\x80\x00",
		"a code without an end":   "\x01\x00\x80",
		"a code above 64 bits":    "\x01\x00\xff\xff\xff\xff\xff\xff\xff\xff\xff\x02",
	} {
		bad := sealed("F" + string(rune(len(payload))) + payload)
		for _, log := range []string{bad, good + bad, bad + good, good + bad + "x"} {
			if got, size, ok := Read(log); ok || got != nil || size != 0 {
				t.Errorf("%s: Read(%x) = %v, %d, %t", why, log, got, size, ok)
			}
		}
		// What is behind the last frame is not looked at.
		wantRead(t, why, good+"x"+bad, []api.Sample{{Series: 1, Time: 2, Value: 3}}, len(good))
	}
	eight := sealed("F\x18" + strings.Repeat("\x0f\x00\x00", 8))
	wantRead(t, "eight samples", eight, slices.Repeat([]api.Sample{{Series: 15}}, 8), len(eight))
}

func TestFramesStopWhenTold(t *testing.T) {
	log := Frame([]api.Sample{{Series: 1}}) + Frame([]api.Sample{{Series: 2}})
	for payload, end := range frames(log) {
		if payload != "\x01\x00\x00" || end != len(log)/2 {
			t.Errorf("it goes on to %x, %d", payload, end)
		}
		break
	}
}
