package silo_test

import (
	"fmt"
	"maps"
	"math/rand"
	"slices"
	"testing"

	"silo/api"
)

// directory: drawn files, most of which are as an engine leaves them.
type directory struct {
	r     *rand.Rand
	files map[string]string
	next  int
}

// seldom: once in so many times.
func (d *directory) seldom(times int) bool { return d.r.Intn(times) == 0 }

// spoilt: bytes that are one shorter, one longer, or turned.
func (d *directory) spoilt(data string) string {
	if data == "" || d.seldom(3) {
		return data + "x"
	}
	i := d.r.Intn(len(data))
	if d.seldom(2) {
		return data[:i]
	}
	return data[:i] + string([]byte{data[i] ^ byte(1<<d.r.Intn(8))}) + data[i+1:]
}

func (d *directory) samples() []api.Sample {
	var list []api.Sample
	for range d.r.Intn(4) {
		list = append(list, api.Sample{Series: d.r.Intn(3), Time: d.r.Intn(5), Value: d.r.Uint64() % 300})
	}
	return list
}

func (d *directory) block(lo, hi int) {
	file := modelFile(lo, hi, d.samples())
	if d.seldom(40) {
		file = d.spoilt(file)
	}
	d.files[fmt.Sprintf("b%d.%d", lo, hi)] = file
}

// blocks: each above the other, some with blocks in them.
func (d *directory) blocks() {
	for range d.r.Intn(4) {
		lo := d.next + d.r.Intn(3)
		hi := lo + d.r.Intn(6)
		d.block(lo, hi)
		for range d.r.Intn(3) {
			inner := lo + d.r.Intn(hi-lo+1)
			d.block(inner, inner)
		}
		d.next = hi + 1
	}
	if d.seldom(6) {
		lo := d.r.Intn(d.next + 1)
		d.block(lo, lo+d.r.Intn(4))
	}
}

func (d *directory) log(number int) {
	data := ""
	for range d.r.Intn(4) {
		batch := d.samples()
		if len(batch) > 0 || d.seldom(25) {
			data += modelFrame(batch)
		}
	}
	if d.seldom(3) {
		data = d.spoilt(data)
	}
	d.files[fmt.Sprint("w", number)] = data
}

// logs: above the blocks, and some in them or anywhere.
func (d *directory) logs() {
	for range d.r.Intn(4) {
		d.log(d.next)
		d.next += 1 + d.r.Intn(3)
	}
	for _, name := range d.names() {
		if lo, hi, ok := rangeOf(name); ok && d.seldom(2) {
			d.log(lo + d.r.Intn(hi-lo+1))
		}
	}
	if d.seldom(6) {
		d.log(d.r.Intn(d.next + 1))
	}
}

// names: in rising order, so that what is drawn hangs on the seed alone.
func (d *directory) names() []string { return slices.Sorted(maps.Keys(d.files)) }

func (d *directory) snapshot() {
	number := d.next
	d.next++
	manifest := "silo\n"
	lo := 0
	for range d.r.Intn(4) {
		lo += d.r.Intn(3)
		hi := lo + d.r.Intn(3)
		name := fmt.Sprintf("b%d.%d", lo, hi)
		file := modelFile(lo, hi, d.samples())
		manifest += modelLine(name, file)
		if d.seldom(15) {
			file = d.spoilt(file)
		}
		if !d.seldom(15) {
			d.files[fmt.Sprintf("s%d.%s", number, name)] = file
		}
		lo = hi + 1
	}
	if d.seldom(10) {
		manifest = d.spoilt(manifest)
	}
	if !d.seldom(10) {
		d.files[fmt.Sprintf("s%d.m", number)] = manifest
	}
	if d.seldom(4) {
		d.files[fmt.Sprintf("s%d.b%d.%d", number, lo, lo)] = "more"
	}
}

func anyDirectory(r *rand.Rand) []api.File {
	d := &directory{r: r, files: map[string]string{}}
	d.blocks()
	d.logs()
	for range r.Intn(3) {
		d.snapshot()
	}
	strange := []string{"", "t.b", "t.c", "t.s", "w", "w00", "b1.0", "b01.1", "s0", "s0.", "s00.m", "x", "s1.w0", "silo\n", "w1000000", "b0.1000000"}
	for range r.Intn(4) {
		d.files[strange[r.Intn(len(strange))]] = "strange"
	}
	var out []api.File
	for _, name := range d.names() {
		out = append(out, api.File{Name: name, Data: d.files[name]})
	}
	r.Shuffle(len(out), func(i, k int) { out[i], out[k] = out[k], out[i] })
	return out
}

// TestOpenOfDrawnFiles: as the model, with power that is lost anywhere or not,
// and calls behind it.
func TestOpenOfDrawnFiles(t *testing.T) {
	t.Parallel()
	count := map[api.Errno]int{}
	complete := 0
	for seed := range int64(3000) {
		r := rand.New(rand.NewSource(seed))
		given := anyDirectory(r)
		p := openPair(t, r, given, quiet)
		count[p.model.fault]++
		complete += len(p.model.snapshots())
		for series := range 3 {
			p.query(series, least, greatest)
		}
		lossy := openPair(t, r, given, anyLoss(r, len(p.model.ops)+1))
		lossy.run(5)
		p.run(20)
	}
	if count[api.OK] < 1000 || count[api.ErrCorrupt] < 300 || complete < 300 {
		t.Errorf("what was drawn is too much alike: %v, %d snapshots", count, complete)
	}
}
