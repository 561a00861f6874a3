package codes

import (
	"strconv"
	"strings"
)

// hashDigits is how many digits a hash has as text.
const hashDigits = 2 * HashSize

// HashText is a hash as text, the high digit first.
func HashText(hash uint64) string {
	digits := strconv.FormatUint(hash, 16)
	return strings.Repeat("0", hashDigits-len(digits)) + digits
}

// FromHashText is the hash that has this text.
func FromHashText(text string) (uint64, bool) {
	hash, err := strconv.ParseUint(text, 16, 64)
	// The library reads more ways of writing a number than there may be.
	if err != nil || HashText(hash) != text {
		return 0, false
	}
	return hash, true
}

// Decimal is the number from 0 to most that has this text.
func Decimal(text string, most int) (int, bool) {
	n, err := strconv.Atoi(text)
	// As above: a sign, a 0 ahead.
	if err != nil || strconv.Itoa(n) != text || n < 0 || n > most {
		return 0, false
	}
	return n, true
}
