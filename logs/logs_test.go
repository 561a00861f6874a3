package logs

import (
	"encoding/binary"
	"hash/fnv"
	"math"
	"strings"
	"testing"

	"silo/api"
)

func sealed(body string) string {
	h := fnv.New64a()
	h.Write([]byte(body))
	return body + string(h.Sum(nil))
}

func TestName(t *testing.T) {
	for number, want := range map[int]string{0: "w0", 7: "w7", 10: "w10", 999999: "w999999"} {
		if got := Name(number); got != want {
			t.Errorf("Name(%d) = %q", number, got)
		}
	}
}

func TestFits(t *testing.T) {
	good := api.Sample{Series: 15, Time: math.MinInt, Value: math.MaxUint64}
	for n := 1; n <= 8; n++ {
		batch := make([]api.Sample, n)
		batch[n-1] = good
		if !Fits(batch) {
			t.Errorf("%v does not fit", batch)
		}
	}
	for _, batch := range [][]api.Sample{nil, {}, make([]api.Sample, 9), {{Series: 16}}, {{Series: -1}}, {good, {Series: math.MaxInt}}, {{Series: math.MinInt}, good}} {
		if Fits(batch) {
			t.Errorf("%v fits", batch)
		}
	}
}

func TestFrame(t *testing.T) {
	least, greatest := strings.Repeat("\xff", 9)+"\x01", "\xfe"+strings.Repeat("\xff", 8)+"\x01"
	for why, c := range map[string]struct {
		batch []api.Sample
		body  string
	}{
		"the document's":  {[]api.Sample{{Series: 1, Time: 10, Value: 20}}, "F\x03\x01\x14\x14"},
		"in their order":  {[]api.Sample{{Series: 3, Time: 5, Value: 1}, {Series: 3, Time: -4, Value: 2}, {Series: 0, Time: 5, Value: 300}}, "F\x0a\x03\x0a\x01\x03\x07\x02\x00\x0a\xac\x02"},
		"the same twice":  {[]api.Sample{{Series: 2}, {Series: 2}}, "F\x06\x02\x00\x00\x02\x00\x00"},
		"least time":      {[]api.Sample{{Series: 15, Time: math.MinInt, Value: math.MaxUint64}}, "F\x15\x0f" + least + least},
		"greatest time":   {[]api.Sample{{Series: 0, Time: math.MaxInt, Value: 0}}, "F\x0c\x00" + greatest + "\x00"},
		"128 bytes and 1": {longBatch(), "F\xa8\x01" + strings.Repeat("\x0f"+least+least, 8)},
	} {
		if got, want := Frame(c.batch), sealed(c.body); got != want {
			t.Errorf("%s: %x, want %x", why, got, want)
		}
	}
}

// longBatch: one whose payload's length has a code of two bytes.
func longBatch() []api.Sample {
	var batch []api.Sample
	for range 8 {
		batch = append(batch, api.Sample{Series: 15, Time: math.MinInt, Value: math.MaxUint64})
	}
	return batch
}

func TestFrameAgainstVarint(t *testing.T) {
	for _, time := range []int{0, 1, -1, 63, 64, -64, -65, math.MaxInt, math.MinInt} {
		for _, value := range []uint64{0, 127, 128, math.MaxUint64} {
			payload := binary.AppendUvarint(binary.AppendVarint([]byte{9}, int64(time)), value)
			want := sealed("F" + string(binary.AppendUvarint(nil, uint64(len(payload)))) + string(payload))
			if got := Frame([]api.Sample{{Series: 9, Time: time, Value: value}}); got != want {
				t.Errorf("time %d, value %d: %x, want %x", time, value, got, want)
			}
		}
	}
}
