package disk

// begin counts an operation. It tells false where none is done any more:
// power is lost ahead of this one, or was ahead of an earlier one.
func (d *Disk) begin() bool {
	if !d.lost && d.begun == d.options.Crash {
		d.lose()
	}
	if d.lost {
		return false
	}
	d.begun++
	return true
}

// lose leaves on the disk what outlives a loss of power.
func (d *Disk) lose() {
	d.lost = true
	d.names = d.safe
	for _, step := range d.steps[:min(d.options.Dirs, len(d.steps))] {
		step(d.names)
	}
	d.safe, d.steps = nil, nil
	for i, name := range d.sorted() {
		d.names[name].shorten(d.keeps(i))
	}
}

// keeps is how many bytes that are not safe the file of name i keeps.
func (d *Disk) keeps(i int) int {
	if len(d.options.Keeps) == 0 {
		return 0
	}
	return d.options.Keeps[i%len(d.options.Keeps)]
}

// shorten leaves the safe bytes and some more. All that is left is safe, so
// that a further name of the file takes nothing from what the first one kept.
func (f *file) shorten(more int) {
	// Not safe+more, which need not fit an int.
	more = min(more, len(f.data)-f.safe)
	f.data = f.data[:f.safe+more]
	f.safe = len(f.data)
}
