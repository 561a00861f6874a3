package silo_test

import (
	"encoding/binary"
	"slices"
	"strings"

	"silo/api"
)

const noughts = "\x00\x00\x00\x00\x00\x00\x00\x00"

// part: bytes behind the code of their length.
func part(s string) string {
	return string(binary.AppendUvarint(nil, uint64(len(s)))) + s
}

// modelArchive: an archive, written down straight from the document.
func modelArchive(base, manifest string, files ...string) string {
	hash := noughts
	if base != "" {
		hash = hashBytes(base)
	}
	out := "A" + hash + part(manifest)
	for _, file := range files {
		out += part(file)
	}
	return sealed(out)
}

// unpacked: of an archive's parts the manifest and the files. What has another
// form than modelArchive gives it is none.
func unpacked(archive, base string) (manifest string, files []string, ok bool) {
	if len(archive) < 1+8+8 {
		return "", nil, false
	}
	var parts []string
	rest := archive[9 : len(archive)-8]
	for rest != "" {
		n, width := binary.Uvarint([]byte(rest))
		if width <= 0 || n > uint64(len(rest)-width) {
			return "", nil, false
		}
		parts = append(parts, rest[width:width+int(n)])
		rest = rest[width+int(n):]
	}
	if len(parts) == 0 || modelArchive(base, parts[0], parts[1:]...) != archive {
		return "", nil, false
	}
	return parts[0], parts[1:], true
}

// modelRestore: Restore, written down straight from the document.
func modelRestore(archives []string) ([]api.File, api.Errno) {
	if len(archives) == 0 {
		return nil, api.ErrChain
	}
	base := ""
	var ahead []string
	have := map[string]string{}
	for _, archive := range archives {
		manifest, files, ok := unpacked(archive, base)
		lines, right := linesOf(manifest)
		if !ok || !right {
			return nil, api.ErrChain
		}
		for _, line := range lines {
			if slices.Contains(ahead, line) {
				continue
			}
			lo, hi, _ := rangeOf(nameIn(line))
			if len(files) == 0 || modelLine(nameIn(line), files[0]) != line || !isBlockFile(lo, hi, files[0]) {
				return nil, api.ErrChain
			}
			have[line] = files[0]
			files = files[1:]
		}
		if len(files) > 0 {
			return nil, api.ErrChain
		}
		base, ahead = manifest, lines
	}
	var out []api.File
	for _, line := range ahead {
		out = append(out, api.File{Name: strings.Clone(nameIn(line)), Data: have[line]})
	}
	return out, api.OK
}
