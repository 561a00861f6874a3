package codes

// The tenth byte of a code has just the highest one of 64 bits.
const (
	lastPlace = 9
	lastByte  = 1
)

// Reader reads codes one behind the other. Once something was wrong it stays
// so, and every further code is 0: so whoever reads may ask at the end alone.
type Reader struct {
	rest   string
	failed bool
}

// NewReader reads from the beginning of data.
func NewReader(data string) *Reader {
	return &Reader{rest: data}
}

// Code reads a code, which must be as short as there may be.
func (r *Reader) Code() uint64 {
	n := uint64(0)
	for i := range len(r.rest) {
		b := r.rest[i]
		if i == lastPlace && b > lastByte {
			break
		}
		n |= uint64(b&127) << (7 * i)
		if b >= 128 {
			continue
		}
		if b == 0 && i > 0 {
			break
		}
		r.rest = r.rest[i+1:]
		return n
	}
	r.Fail()
	return 0
}

// Bytes reads n bytes. It is given a code, which may be far more than there is.
func (r *Reader) Bytes(n uint64) string {
	if n > uint64(len(r.rest)) {
		r.Fail()
		return ""
	}
	data := r.rest[:n]
	r.rest = r.rest[n:]
	return data
}

// Left is how many bytes are not yet read.
func (r *Reader) Left() int { return len(r.rest) }

// Fail says that what was read can't be.
func (r *Reader) Fail() {
	r.rest = ""
	r.failed = true
}

// Failed tells whether something was wrong.
func (r *Reader) Failed() bool { return r.failed }

// Done tells whether all was read and nothing was wrong.
func (r *Reader) Done() bool { return !r.failed && r.rest == "" }
