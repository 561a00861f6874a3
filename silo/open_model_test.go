package silo_test

import (
	"encoding/binary"
	"fmt"
	"hash/fnv"
	"maps"
	"regexp"
	"slices"
	"strconv"
	"strings"

	"silo/api"
	"silo/silo"
)

// What names and lines look like.
const numberText = `(0|[1-9][0-9]{0,5})`

var (
	blockText    = regexp.MustCompile(`\Ab` + numberText + `\.` + numberText + `\z`)
	logText      = regexp.MustCompile(`\Aw` + numberText + `\z`)
	manifestText = regexp.MustCompile(`\As` + numberText + `\.m\z`)
	shotText     = regexp.MustCompile(`\As` + numberText + `\.(b.*)\z`)
	lineText     = regexp.MustCompile(`\A(b[0-9.]+) (0|[1-9][0-9]{0,8}) [0-9a-f]{16}\z`)
)

func asNumber(text string) int {
	n, _ := strconv.Atoi(text)
	return n
}

// rangeOf: of a block's name.
func rangeOf(name string) (lo, hi int, ok bool) {
	m := blockText.FindStringSubmatch(name)
	if m == nil || asNumber(m[1]) > asNumber(m[2]) {
		return 0, 0, false
	}
	return asNumber(m[1]), asNumber(m[2]), true
}

func hashBytes(s string) string {
	h := fnv.New64a()
	h.Write([]byte(s))
	return string(h.Sum(nil))
}

// modelLine: a line of a manifest.
func modelLine(name, file string) string {
	return fmt.Sprintf("%s %d %x\n", name, len(file), hashBytes(file))
}

// linesOf: a manifest's lines, if it is right.
func linesOf(manifest string) ([]string, bool) {
	all := strings.SplitAfter(manifest, "\n")
	if len(all) < 2 || all[0] != "silo\n" || all[len(all)-1] != "" {
		return nil, false
	}
	lines := all[1 : len(all)-1]
	ahead := -1
	for _, line := range lines {
		m := lineText.FindStringSubmatch(strings.TrimSuffix(line, "\n"))
		if m == nil {
			return nil, false
		}
		lo, hi, ok := rangeOf(m[1])
		if !ok || lo <= ahead {
			return nil, false
		}
		ahead = hi
	}
	return lines, true
}

func nameIn(line string) string { return line[:strings.Index(line, " ")] }

// isBlockFile: just the file of a block with this range.
func isBlockFile(lo, hi int, file string) bool {
	a, b, list, err := silo.Samples(file)
	return err == api.OK && a == lo && b == hi && modelFile(lo, hi, list) == file
}

// modelFrame: the frame of a batch, written down straight from the document.
func modelFrame(batch []api.Sample) string {
	var payload []byte
	for _, x := range batch {
		payload = binary.AppendUvarint(payload, uint64(x.Series))
		payload = binary.AppendVarint(payload, int64(x.Time))
		payload = binary.AppendUvarint(payload, x.Value)
	}
	return framed(string(payload))
}

func framed(payload string) string {
	return sealed("F" + string(binary.AppendUvarint(nil, uint64(len(payload)))) + payload)
}

// payloadsOf: those of the frames from the beginning on, and how many bytes
// these have. A frame is looked for by its payload's length, as it has just one
// form then.
func payloadsOf(log string) (payloads []string, size int) {
	for {
		rest := log[size:]
		if len(rest) < 2 || rest[0] != 'F' {
			return payloads, size
		}
		n, width := binary.Uvarint([]byte(rest[1:]))
		if width <= 0 || n > uint64(len(rest)) || 1+width+int(n) > len(rest) {
			return payloads, size
		}
		payload := rest[1+width : 1+width+int(n)]
		frame := framed(payload)
		if !strings.HasPrefix(rest, frame) {
			return payloads, size
		}
		payloads = append(payloads, payload)
		size += len(frame)
	}
}

// batchOf: a payload's samples, if it is one: if they are written so again.
func batchOf(payload string) ([]api.Sample, bool) {
	var batch []api.Sample
	rest := []byte(payload)
	for len(rest) > 0 && len(batch) <= 8 {
		series, a := binary.Uvarint(rest)
		if a <= 0 || series > 15 {
			return nil, false
		}
		time, b := binary.Varint(rest[a:])
		if b <= 0 {
			return nil, false
		}
		value, c := binary.Uvarint(rest[a+b:])
		if c <= 0 {
			return nil, false
		}
		batch = append(batch, api.Sample{Series: int(series), Time: int(time), Value: value})
		rest = rest[a+b+c:]
	}
	return batch, 1 <= len(batch) && len(batch) <= 8 && modelFrame(batch) == framed(payload)
}

// openModel: Open, written down straight from the document.
func openModel(given []api.File) *modelEngine {
	m := &modelEngine{given: slices.Clone(given), work: map[int]*modelMachine{}}
	data := map[string]string{}
	for _, f := range given {
		data[f.Name] = f.Data
	}
	names := slices.Sorted(maps.Keys(data))
	goes := map[string]bool{}
	var logs []int
	for _, name := range names {
		lo, hi, isBlock := rangeOf(name)
		log := logText.FindStringSubmatch(name)
		switch {
		case isBlock:
			if !isBlockFile(lo, hi, data[name]) {
				m.fault = api.ErrCorrupt
			}
			_, _, list, _ := silo.Samples(data[name])
			m.blocks = append(m.blocks, modelBlock{lo, hi, list})
		case log != nil:
			logs = append(logs, asNumber(log[1]))
		case !staysInASnapshot(name, data):
			goes[name] = true
		}
	}
	m.openBlocks(goes)
	slices.Sort(logs)
	m.openLogs(logs, data, goes)
	if m.fault != api.OK {
		return m
	}
	m.finishOpen(names, goes)
	return m
}

// staysInASnapshot: a manifest of a complete one, or a block that it names.
func staysInASnapshot(name string, data map[string]string) bool {
	number := ""
	if a := manifestText.FindStringSubmatch(name); a != nil {
		number = a[1]
	} else if a := shotText.FindStringSubmatch(name); a != nil {
		number = a[1]
	} else {
		return false
	}
	manifest, there := data["s"+number+".m"]
	lines, right := linesOf(manifest)
	if !there || !right {
		return false
	}
	named := name == "s"+number+".m"
	for _, line := range lines {
		part := "s" + number + "." + nameIn(line)
		file, there := data[part]
		if !there || modelLine(nameIn(line), file) != line {
			return false
		}
		named = named || name == part
	}
	return named
}

func (m *modelEngine) openBlocks(goes map[string]bool) {
	var stay []modelBlock
	for i, a := range m.blocks {
		inner := false
		for k, b := range m.blocks {
			if i == k || a.hi < b.lo || b.hi < a.lo {
				continue
			}
			inAnother, hasAnother := b.lo <= a.lo && a.hi <= b.hi, a.lo <= b.lo && b.hi <= a.hi
			if !inAnother && !hasAnother {
				m.fault = api.ErrCorrupt
			}
			inner = inner || inAnother
		}
		if inner {
			goes[a.name()] = true
		} else {
			stay = append(stay, a)
		}
	}
	m.blocks = stay
	slices.SortFunc(m.blocks, byLo)
}

func (m *modelEngine) openLogs(logs []int, data map[string]string, goes map[string]bool) {
	for _, log := range logs {
		name := fmt.Sprint("w", log)
		below := false
		for _, b := range m.blocks {
			if b.lo <= log && log <= b.hi {
				goes[name] = true
			}
			below = below || log < b.hi
		}
		if goes[name] {
			continue
		}
		if below {
			m.fault = api.ErrCorrupt
		}
		payloads, size := payloadsOf(data[name])
		for _, payload := range payloads {
			batch, ok := batchOf(payload)
			if !ok {
				m.fault = api.ErrCorrupt
			}
			m.head = append(m.head, batch...)
		}
		if size < len(data[name]) {
			m.later = append(m.later, op{what: "CUTOFF", name: name, n: size}, op{what: "SYNC", name: name})
		}
		m.live = append(m.live, log)
	}
}

// finishOpen: the operations, in their order.
func (m *modelEngine) finishOpen(names []string, goes map[string]bool) {
	m.do(m.later...)
	digits := regexp.MustCompile(`[0-9]+`)
	for _, name := range names {
		if goes[name] {
			m.do(op{what: "REMOVE", name: name})
			continue
		}
		for _, text := range digits.FindAllString(name, -1) {
			m.next = max(m.next, asNumber(text)+1)
		}
	}
	if len(goes) > 0 {
		m.do(op{what: "SYNCDIR"})
	}
	if m.next > 999999 {
		m.fault = api.ErrFull
		return
	}
	m.do(op{what: "CREATE", name: fmt.Sprint("w", m.next)}, op{what: "SYNCDIR"})
	m.live = append(m.live, m.next)
	m.next++
}
