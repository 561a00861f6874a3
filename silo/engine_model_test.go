package silo_test

import (
	"cmp"
	"fmt"
	"slices"

	"silo/api"
)

// modelBlock: a block of the model's; its samples may be in any order.
type modelBlock struct {
	lo, hi int
	list   []api.Sample
}

func (b modelBlock) name() string { return fmt.Sprintf("b%d.%d", b.lo, b.hi) }

func (b modelBlock) file() string { return modelFile(b.lo, b.hi, b.list) }

func (b modelBlock) line() string { return modelLine(b.name(), b.file()) }

func byLo(a, b modelBlock) int { return cmp.Compare(a.lo, b.lo) }

// modelMachine: of which kind, how many steps it took, what it holds.
type modelMachine struct {
	kind         string
	taken        int
	batch        []api.Sample
	log          string
	logs         []int
	two          []modelBlock
	number       int
	pinned, shot []modelBlock // without, with the block of its own
}

// modelEngine: an engine, written down straight from the document.
type modelEngine struct {
	given        []api.File
	fault        api.Errno // of Open, but for a loss of power
	later, ops   []op
	next, begun  int
	live         []int
	head, frozen []api.Sample
	blocks       []modelBlock
	doomed       []modelBlock
	work         map[int]*modelMachine
}

func (m *modelEngine) do(ops ...op) { m.ops = append(m.ops, ops...) }

func (m *modelEngine) write(name, data string) {
	m.do(op{what: "CREATE", name: name}, op{what: "APPEND", name: name, data: data}, op{what: "SYNC", name: name})
}

func (m *modelEngine) there(name string) bool {
	_, there := diskOf(m.given, m.ops).names[name]
	return there
}

func (m *modelEngine) written() string { return fmt.Sprint("w", m.live[len(m.live)-1]) }

func (m *modelEngine) number() int {
	m.next++
	return m.next - 1
}

func (m *modelEngine) begin(x *modelMachine) (int, api.Errno) {
	m.begun++
	m.work[m.begun] = x
	return m.begun, api.OK
}

func (m *modelEngine) append(batch []api.Sample) (int, api.Errno) {
	if m.fault != api.OK {
		return 0, m.fault
	}
	if len(batch) == 0 || len(batch) > 8 {
		return 0, api.ErrBatch
	}
	for _, x := range batch {
		if x.Series < 0 || x.Series > 15 {
			return 0, api.ErrBatch
		}
	}
	return m.begin(&modelMachine{kind: "append", batch: slices.Clone(batch)})
}

func (m *modelEngine) one(kind string, most int) (int, api.Errno) {
	if m.fault != api.OK {
		return 0, m.fault
	}
	for _, x := range m.work {
		if x.kind == kind {
			return 0, api.ErrBusy
		}
	}
	if m.next > most {
		return 0, api.ErrFull
	}
	return m.begin(&modelMachine{kind: kind})
}

func (m *modelEngine) cut() (int, api.Errno)      { return m.one("cut", 999990) }
func (m *modelEngine) compact() (int, api.Errno)  { return m.one("compact", 1<<62) }
func (m *modelEngine) snapshot() (int, api.Errno) { return m.one("snapshot", 999990) }

func (m *modelEngine) move(number int) (bool, int, api.Errno) {
	if m.fault != api.OK {
		return false, 0, m.fault
	}
	x := m.work[number]
	if x == nil {
		return false, 0, api.ErrMachine
	}
	x.taken++
	done, result := false, 0
	switch x.kind {
	case "append":
		done = m.moveAppend(x)
	case "cut":
		done = m.moveCut(x)
	case "compact":
		done = m.moveCompact(x)
	case "snapshot":
		if done = m.moveSnapshot(x); done {
			result = x.number
		}
	}
	if done {
		delete(m.work, number)
	}
	return done, result, api.OK
}

func (m *modelEngine) moveAppend(x *modelMachine) bool {
	if x.taken == 1 {
		x.log = m.written()
		m.do(op{what: "APPEND", name: x.log, data: modelFrame(x.batch)})
		m.head = append(m.head, x.batch...)
		return false
	}
	if m.there(x.log) {
		m.do(op{what: "SYNC", name: x.log})
	}
	return true
}

func (m *modelEngine) moveCut(x *modelMachine) bool {
	block := modelBlock{list: m.frozen}
	if x.taken > 1 {
		block.lo, block.hi = slices.Min(x.logs), slices.Max(x.logs)
	}
	switch x.taken {
	case 1:
		if len(m.head) == 0 {
			return true
		}
		m.do(op{what: "SYNC", name: m.written()}, op{what: "CREATE", name: fmt.Sprint("w", m.next)}, op{what: "SYNCDIR"})
		x.logs, m.live = m.live, []int{m.number()}
		m.frozen, m.head = m.head, nil
	case 2:
		m.write("t.b", block.file())
	case 3:
		m.do(op{what: "RENAME", name: "t.b", other: block.name()}, op{what: "SYNCDIR"})
		m.blocks = append(m.blocks, block)
		slices.SortFunc(m.blocks, byLo)
		m.frozen = nil
	case 4:
		for _, log := range x.logs {
			m.do(op{what: "REMOVE", name: fmt.Sprint("w", log)})
		}
		m.do(op{what: "SYNCDIR"})
	}
	return x.taken == 4
}

func (m *modelEngine) moveCompact(x *modelMachine) bool {
	if x.taken == 1 {
		if len(m.blocks) < 2 {
			return true
		}
		x.two = slices.Clone(m.blocks[:2])
	}
	one, two := x.two[0], x.two[1]
	both := modelBlock{min(one.lo, two.lo), max(one.hi, two.hi), slices.Concat(one.list, two.list)}
	switch x.taken {
	case 1:
		m.write("t.c", both.file())
	case 2:
		m.do(op{what: "RENAME", name: "t.c", other: both.name()}, op{what: "SYNCDIR"})
		m.blocks = slices.DeleteFunc(m.blocks, func(b modelBlock) bool { return b.lo == one.lo || b.lo == two.lo })
		m.blocks = append(m.blocks, both)
		slices.SortFunc(m.blocks, byLo)
	case 3:
		before := len(m.ops)
		for _, old := range x.two {
			if m.isPinned(old) {
				m.doomed = append(m.doomed, old)
			} else {
				m.do(op{what: "REMOVE", name: old.name()})
			}
		}
		if len(m.ops) > before {
			m.do(op{what: "SYNCDIR"})
		}
	}
	return x.taken == 3
}

func (m *modelEngine) isPinned(b modelBlock) bool {
	for _, x := range m.work {
		for _, p := range x.pinned {
			if p.name() == b.name() {
				return true
			}
		}
	}
	return false
}

func (m *modelEngine) moveSnapshot(x *modelMachine) bool {
	switch x.taken {
	case 1:
		x.number = m.number()
		x.pinned = slices.Clone(m.blocks)
		x.shot = slices.Clone(m.blocks)
		if len(m.head)+len(m.frozen) > 0 {
			own := m.number()
			x.shot = append(x.shot, modelBlock{own, own, slices.Concat(m.frozen, m.head)})
		}
	case 2:
		for _, b := range x.pinned {
			m.do(op{what: "LINK", name: b.name(), other: fmt.Sprintf("s%d.%s", x.number, b.name())})
		}
		for _, b := range x.shot[len(x.pinned):] {
			m.write(fmt.Sprintf("s%d.%s", x.number, b.name()), b.file())
		}
	case 3:
		manifest := "silo\n"
		for _, b := range x.shot {
			manifest += b.line()
		}
		m.write("t.s", manifest)
		m.do(op{what: "RENAME", name: "t.s", other: fmt.Sprintf("s%d.m", x.number)}, op{what: "SYNCDIR"})
		x.pinned = nil
		slices.SortFunc(m.doomed, byLo)
		for _, b := range m.doomed {
			m.do(op{what: "REMOVE", name: b.name()})
		}
		if len(m.doomed) > 0 {
			m.do(op{what: "SYNCDIR"})
		}
		m.doomed = nil
	}
	return x.taken == 3
}

func (m *modelEngine) query(series, from, to int) ([]api.Point, api.Errno) {
	if m.fault != api.OK {
		return nil, m.fault
	}
	if series < 0 || series > 15 {
		return nil, api.ErrSeries
	}
	var all []api.Sample
	for _, b := range m.blocks {
		all = append(all, b.list...)
	}
	var out []api.Point
	for _, x := range laid(slices.Concat(all, m.frozen, m.head)) {
		if x.Series == series && from <= x.Time && x.Time <= to {
			out = append(out, api.Point{Time: x.Time, Value: x.Value})
		}
	}
	return out, api.OK
}

// snapshots: the numbers of those that are there.
func (m *modelEngine) snapshots() []int {
	var out []int
	for _, f := range now(m.given, m.ops) {
		if a := manifestText.FindStringSubmatch(f.Name); a != nil {
			out = append(out, asNumber(a[1]))
		}
	}
	return out
}

func (m *modelEngine) manifest(snapshot int) (string, api.Errno) {
	if m.fault != api.OK {
		return "", m.fault
	}
	for _, f := range now(m.given, m.ops) {
		if f.Name == fmt.Sprintf("s%d.m", snapshot) {
			return f.Data, api.OK
		}
	}
	return "", api.ErrSnapshot
}

func (m *modelEngine) backup(snapshot int, base string) (string, api.Errno) {
	manifest, err := m.manifest(snapshot)
	if err != api.OK {
		return "", err
	}
	old, right := linesOf(base)
	if base != "" && !right {
		return "", api.ErrChain
	}
	lines, _ := linesOf(manifest)
	var files []string
	for _, line := range lines {
		if slices.Contains(old, line) {
			continue
		}
		for _, f := range now(m.given, m.ops) {
			if f.Name == fmt.Sprintf("s%d.%s", snapshot, nameIn(line)) {
				files = append(files, f.Data)
			}
		}
	}
	return modelArchive(base, manifest, files...), api.OK
}
