package chains

import (
	"strings"

	"silo/api"
	"silo/blocks"
	"silo/snapshots"
)

// brought is a file that an archive of a chain has.
type brought struct{ file string }

// chain is archives, one behind the other.
type chain struct {
	// Of the last one; empty, if there is none.
	manifest string
	lines    []snapshots.Line

	files map[snapshots.Line]brought
}

// Restore is the files of the last archive's blocks, in rising order of lo;
// false, unless the archives are a chain.
func Restore(archives []string) ([]api.File, bool) {
	if len(archives) == 0 {
		return nil, false
	}
	c := chain{files: make(map[snapshots.Line]brought)}
	for _, archive := range archives {
		if !c.add(archive) {
			return nil, false
		}
	}
	return c.restored(), true
}

// add puts an archive behind the others; false, if it does not go there.
func (c *chain) add(archive string) bool {
	a, isArchive := Decode(archive)
	lines, isRight := snapshots.Lines(a.Manifest)
	if !isArchive || !isRight || a.Base != BaseOf(c.manifest) {
		return false
	}
	fresh := snapshots.Fresh(lines, c.lines)
	if len(fresh) != len(a.Files) {
		return false
	}
	for i, line := range fresh {
		file := a.Files[i]
		if !line.Fits(file) || !blocks.IsFile(line.Range, file) {
			return false
		}
		c.files[line] = brought{file}
	}
	c.manifest, c.lines = a.Manifest, lines
	return true
}

// restored copies the files, which up to here lie in the archives.
func (c *chain) restored() []api.File {
	var out []api.File
	for _, line := range c.lines {
		out = append(out, api.File{Name: line.Range.Name(), Data: strings.Clone(c.files[line].file)})
	}
	return out
}
