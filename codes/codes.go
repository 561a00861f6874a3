// Package codes: numbers and hashes as the bytes of silo's files.
package codes

import "silo/api"

// HashSize is how many bytes a hash has.
const HashSize = 8

// Append puts the code of n behind what is in to.
func Append(to []byte, n uint64) []byte {
	for n >= 128 {
		to = append(to, byte(n)|128)
		n >>= 7
	}
	return append(to, byte(n))
}

// FromSigned is the number as which a signed one is coded.
func FromSigned(n int) uint64 {
	if n >= 0 {
		return 2 * uint64(n)
	}
	// -2n itself does not fit for the least int, this does.
	return 2*uint64(-(n+1)) + 1
}

// ToSigned is the signed number that FromSigned makes n of.
func ToSigned(n uint64) int {
	half := int(n / 2)
	if n%2 == 0 {
		return half
	}
	return -half - 1
}

// Hash is the hash of bytes.
func Hash(data string) uint64 {
	hash := api.Basis
	for i := range len(data) {
		hash = (hash ^ uint64(data[i])) * api.Prime
	}
	return hash
}

// HashBytes is a hash as bytes, the high one first.
func HashBytes(hash uint64) string {
	var out [HashSize]byte
	for i := range HashSize {
		out[HashSize-1-i] = byte(hash)
		hash >>= 8
	}
	return string(out[:])
}

// Sealed is the data with their hash behind them.
func Sealed(data string) string {
	return data + HashBytes(Hash(data))
}

// Unsealed is what Sealed was given, if the hash at the end is right.
func Unsealed(sealed string) (string, bool) {
	end := len(sealed) - HashSize
	if end < 0 {
		return "", false
	}
	data := sealed[:end]
	if HashBytes(Hash(data)) != sealed[end:] {
		return "", false
	}
	return data, true
}
