package blocks

import (
	"strconv"
	"strings"

	"silo/api"
	"silo/codes"
)

// letter begins the name of a block.
const letter = "b"

// Range is the numbers from Lo to Hi, both included.
type Range struct{ Lo, Hi int }

// Fits tells whether a block may have this range.
func (r Range) Fits() bool {
	return 0 <= r.Lo && r.Lo <= r.Hi && r.Hi <= api.MaxNumber
}

// Name is the name of the block with this range.
func (r Range) Name() string {
	return letter + strconv.Itoa(r.Lo) + "." + strconv.Itoa(r.Hi)
}

// FromName is the range of the block that has this name.
func FromName(name string) (Range, bool) {
	numbers, lettered := strings.CutPrefix(name, letter)
	low, high, dotted := strings.Cut(numbers, ".")
	lo, lowFits := codes.Decimal(low, api.MaxNumber)
	hi, highFits := codes.Decimal(high, api.MaxNumber)
	r := Range{Lo: lo, Hi: hi}
	if !lettered || !dotted || !lowFits || !highFits || !r.Fits() {
		return Range{}, false
	}
	return r, true
}
