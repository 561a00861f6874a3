// Package chains: snapshots as they are shipped, in archives, and what these
// bring back one behind the other.
package chains

import (
	"strings"

	"silo/codes"
)

// mark begins an archive.
const mark = "A"

// noBase is the base of an archive that has none.
const noBase = "\x00\x00\x00\x00\x00\x00\x00\x00"

// Archive is a manifest and those files of its blocks that the base, a
// manifest's hash or noBase, has not.
type Archive struct {
	Base     string
	Manifest string
	Files    []string
}

// BaseOf is the base that stands for a manifest, or for none, if it is empty.
func BaseOf(manifest string) string {
	if manifest == "" {
		return noBase
	}
	return codes.HashBytes(codes.Hash(manifest))
}

// Encode is the archive as bytes.
func (a Archive) Encode() string {
	out := []byte(mark + a.Base)
	out = appendPart(out, a.Manifest)
	for _, file := range a.Files {
		out = appendPart(out, file)
	}
	return codes.Sealed(string(out))
}

func appendPart(to []byte, part string) []byte {
	return append(codes.Append(to, uint64(len(part))), part...)
}

// Decode reads what Encode wrote; false, unless the bytes are just that. The
// manifest need not be right, nor the files go with it.
func Decode(data string) (Archive, bool) {
	unsealed, sealed := codes.Unsealed(data)
	body, marked := strings.CutPrefix(unsealed, mark)
	if !sealed || !marked {
		return Archive{}, false
	}
	r := codes.NewReader(body)
	a := Archive{Base: r.Bytes(codes.HashSize)}
	a.Manifest = readPart(r)
	for r.Left() > 0 {
		a.Files = append(a.Files, readPart(r))
	}
	if !r.Done() {
		return Archive{}, false
	}
	return a, true
}

func readPart(r *codes.Reader) string { return r.Bytes(r.Code()) }
