package disk

// The names that operations are given must be there, but for the one that
// CREATE, LINK and RENAME give to a file.

// Create gives a name to a new file without bytes.
func (d *Disk) Create(name string) {
	if d.begin() {
		f := &file{}
		d.take(func(names directory) { names[name] = f })
	}
}

// Append puts bytes behind those of a file.
func (d *Disk) Append(name string, data string) {
	if d.begin() {
		f := d.names[name]
		f.data = append(f.data, data...)
	}
}

// Cutoff leaves the first n bytes of a file.
func (d *Disk) Cutoff(name string, n int) {
	if d.begin() {
		f := d.names[name]
		f.data = f.data[:n]
		f.safe = min(f.safe, n)
	}
}

// Sync makes all bytes of a file safe.
func (d *Disk) Sync(name string) {
	if d.begin() {
		f := d.names[name]
		f.safe = len(f.data)
	}
}

// Link gives a further name to a file.
func (d *Disk) Link(name string, other string) {
	if d.begin() {
		d.take(func(names directory) { names[other] = names[name] })
	}
}

// Rename gives a file another name in the place of the one it has.
func (d *Disk) Rename(name string, other string) {
	if d.begin() {
		d.take(func(names directory) {
			f := names[name]
			delete(names, name)
			names[other] = f
		})
	}
}

// Remove takes a name away.
func (d *Disk) Remove(name string) {
	if d.begin() {
		d.take(func(names directory) { delete(names, name) })
	}
}

// take takes a step of the directory, which is not safe as yet.
func (d *Disk) take(s step) {
	s(d.names)
	d.steps = append(d.steps, s)
}

// SyncDir makes all steps of the directory safe.
func (d *Disk) SyncDir() {
	if d.begin() {
		for _, step := range d.steps {
			step(d.safe)
		}
		d.steps = nil
	}
}
