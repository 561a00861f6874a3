package snapshots

import (
	"strconv"
	"strings"

	"silo/blocks"
	"silo/codes"
)

// The manifest begins with first; every line ends with newline, its parts
// stand a blank apart.
const (
	first   = "silo\n"
	newline = "\n"
	blank   = " "
)

// maxSize is the greatest length of a file that a line may tell: 9 digits.
const maxSize = 999999999

// Line is what a manifest says of a block. Two lines are the same text if and
// only if they are equal.
type Line struct {
	Range blocks.Range
	Size  int
	Hash  uint64
}

// LineOf is the line of a block with this range and file.
func LineOf(r blocks.Range, file string) Line {
	return Line{Range: r, Size: len(file), Hash: codes.Hash(file)}
}

// Fits tells whether a file has the length and the hash that the line says.
func (l Line) Fits(file string) bool { return l == LineOf(l.Range, file) }

// Manifest is the text of lines, which must be by rising lo.
func Manifest(lines []Line) string {
	var text strings.Builder
	text.WriteString(first)
	for _, l := range lines {
		text.WriteString(l.Range.Name() + blank + strconv.Itoa(l.Size) + blank + codes.HashText(l.Hash) + newline)
	}
	return text.String()
}

// Lines is the lines of a manifest; false, unless it is right.
func Lines(manifest string) ([]Line, bool) {
	body, headed := strings.CutPrefix(manifest, first)
	if !headed {
		return nil, false
	}
	var lines []Line
	least := 0
	for text := range strings.Lines(body) {
		line, ok := readLine(text)
		if !ok || line.Range.Lo < least {
			return nil, false
		}
		least = line.Range.Hi + 1
		lines = append(lines, line)
	}
	return lines, true
}

func readLine(text string) (Line, bool) {
	text, ended := strings.CutSuffix(text, newline)
	parts := strings.Split(text, blank)
	if !ended || len(parts) != 3 {
		return Line{}, false
	}
	r, isName := blocks.FromName(parts[0])
	size, isSize := codes.Decimal(parts[1], maxSize)
	hash, isHash := codes.FromHashText(parts[2])
	return Line{Range: r, Size: size, Hash: hash}, isName && isSize && isHash
}

// Fresh is those of the lines that are none of the base's, in their order.
func Fresh(lines []Line, base []Line) []Line {
	old := make(map[Line]struct{})
	for _, line := range base {
		old[line] = struct{}{}
	}
	var fresh []Line
	for _, line := range lines {
		if _, ok := old[line]; !ok {
			fresh = append(fresh, line)
		}
	}
	return fresh
}
