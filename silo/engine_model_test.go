package silo_test

import (
	"encoding/binary"
	"fmt"
	"maps"
	"slices"

	"silo/api"
)

// op: an operation of the disk, as the document names it.
type op struct{ what, name, other, data string }

// modelDisk: what one gets by operations from the beginning on. A file is the
// number of the operation that created it.
type modelDisk struct {
	names, safeNames map[string]int
	steps            []op
	files            []int
	data             map[int]string
	safe             map[int]int
}

// taken: a directory behind a step.
func taken(names map[string]int, o op, file int) {
	switch o.what {
	case "CREATE":
		names[o.name] = file
	case "RENAME":
		names[o.other] = names[o.name]
		delete(names, o.name)
	case "REMOVE":
		delete(names, o.name)
	}
}

func diskOf(ops []op) *modelDisk {
	d := &modelDisk{names: map[string]int{}, safeNames: map[string]int{}, data: map[int]string{}, safe: map[int]int{}}
	for i, o := range ops {
		switch o.what {
		case "APPEND":
			d.data[d.names[o.name]] += o.data
		case "SYNC":
			d.safe[d.names[o.name]] = len(d.data[d.names[o.name]])
		case "SYNCDIR":
			d.safeNames, d.steps, d.files = maps.Clone(d.names), nil, nil
		default:
			taken(d.names, o, i)
			d.steps, d.files = append(d.steps, o), append(d.files, i)
		}
	}
	return d
}

// now: the files behind operations.
func now(ops []op) []api.File {
	d := diskOf(ops)
	var out []api.File
	for _, name := range slices.Sorted(maps.Keys(d.names)) {
		out = append(out, api.File{Name: name, Data: d.data[d.names[name]]})
	}
	return out
}

// left: the files that are left if power is lost behind operations.
func left(ops []op, o api.Options) []api.File {
	d := diskOf(ops)
	for i := range min(o.Dirs, len(d.steps)) {
		taken(d.safeNames, d.steps[i], d.files[i])
	}
	var out []api.File
	for i, name := range slices.Sorted(maps.Keys(d.safeNames)) {
		file := d.safeNames[name]
		keep := 0
		if len(o.Keeps) > 0 {
			keep = o.Keeps[i%len(o.Keeps)]
		}
		data := d.data[file]
		out = append(out, api.File{Name: name, Data: data[:d.safe[file]+min(keep, len(data)-d.safe[file])]})
	}
	return out
}

// modelFrame: the frame of a batch, written down straight from the document.
func modelFrame(batch []api.Sample) string {
	var payload []byte
	for _, x := range batch {
		payload = binary.AppendUvarint(payload, uint64(x.Series))
		payload = binary.AppendVarint(payload, int64(x.Time))
		payload = binary.AppendUvarint(payload, x.Value)
	}
	return sealed("F" + string(binary.AppendUvarint(nil, uint64(len(payload)))) + string(payload))
}

// modelMachine: of which kind, how many steps it took, what it holds.
type modelMachine struct {
	kind  string
	taken int
	batch []api.Sample
	log   string
	logs  []int
}

// modelEngine: an engine of no files, written down straight from the document.
type modelEngine struct {
	ops          []op
	next, begun  int
	live         []int
	head, frozen []api.Sample
	blocks       [][]api.Sample
	work         map[int]*modelMachine
}

func newModel() *modelEngine {
	m := &modelEngine{work: map[int]*modelMachine{}, live: []int{0}, next: 1}
	m.do(op{what: "CREATE", name: "w0"}, op{what: "SYNCDIR"})
	return m
}

func (m *modelEngine) do(ops ...op) { m.ops = append(m.ops, ops...) }

func (m *modelEngine) written() string { return fmt.Sprint("w", m.live[len(m.live)-1]) }

func (m *modelEngine) begin(x *modelMachine) (int, api.Errno) {
	m.begun++
	m.work[m.begun] = x
	return m.begun, api.OK
}

func (m *modelEngine) append(batch []api.Sample) (int, api.Errno) {
	if len(batch) == 0 || len(batch) > 8 {
		return 0, api.ErrBatch
	}
	for _, x := range batch {
		if x.Series < 0 || x.Series > 15 {
			return 0, api.ErrBatch
		}
	}
	return m.begin(&modelMachine{kind: "append", batch: slices.Clone(batch)})
}

func (m *modelEngine) cut() (int, api.Errno) {
	for _, x := range m.work {
		if x.kind == "cut" {
			return 0, api.ErrBusy
		}
	}
	return m.begin(&modelMachine{kind: "cut"})
}

func (m *modelEngine) move(number int) (bool, api.Errno) {
	x := m.work[number]
	if x == nil {
		return false, api.ErrMachine
	}
	x.taken++
	done := false
	if x.kind == "append" {
		done = m.moveAppend(x)
	} else {
		done = m.moveCut(x)
	}
	if done {
		delete(m.work, number)
	}
	return done, api.OK
}

func (m *modelEngine) moveAppend(x *modelMachine) bool {
	if x.taken == 1 {
		x.log = m.written()
		m.do(op{what: "APPEND", name: x.log, data: modelFrame(x.batch)})
		m.head = append(m.head, x.batch...)
		return false
	}
	if _, there := diskOf(m.ops).names[x.log]; there {
		m.do(op{what: "SYNC", name: x.log})
	}
	return true
}

func (m *modelEngine) moveCut(x *modelMachine) bool {
	switch x.taken {
	case 1:
		if len(m.head) == 0 {
			return true
		}
		m.do(op{what: "SYNC", name: m.written()}, op{what: "CREATE", name: fmt.Sprint("w", m.next)}, op{what: "SYNCDIR"})
		x.logs, m.live = m.live, []int{m.next}
		m.next++
		m.frozen, m.head = m.head, nil
	case 2:
		file := modelFile(slices.Min(x.logs), slices.Max(x.logs), m.frozen)
		m.do(op{what: "CREATE", name: "t.b"}, op{what: "APPEND", name: "t.b", data: file}, op{what: "SYNC", name: "t.b"})
	case 3:
		m.do(op{what: "RENAME", name: "t.b", other: fmt.Sprintf("b%d.%d", slices.Min(x.logs), slices.Max(x.logs))}, op{what: "SYNCDIR"})
		m.blocks = append(m.blocks, m.frozen)
		m.frozen = nil
	case 4:
		for _, log := range x.logs {
			m.do(op{what: "REMOVE", name: fmt.Sprint("w", log)})
		}
		m.do(op{what: "SYNCDIR"})
	}
	return x.taken == 4
}

func (m *modelEngine) query(series, from, to int) ([]api.Point, api.Errno) {
	if series < 0 || series > 15 {
		return nil, api.ErrSeries
	}
	all := slices.Concat(slices.Concat(m.blocks...), m.frozen, m.head)
	var out []api.Point
	for _, x := range laid(all) {
		if x.Series == series && from <= x.Time && x.Time <= to {
			out = append(out, api.Point{Time: x.Time, Value: x.Value})
		}
	}
	return out, api.OK
}
