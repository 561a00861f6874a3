package silo

import "silo/api"

// kind is what a machine does.
type kind int

const (
	appends kind = iota
	cuts
	compacts
	snaps
	kinds // how many there are
)

// lastNumber is the greatest next number at which a machine that uses numbers
// up may begin: those at work find theirs above it.
const lastNumber = 999990

// step is one of a machine's. It tells whether nothing is left to be done.
type step func() (done bool)

// machine is work that goes on from step to step.
type machine struct {
	kind   kind
	number int
	steps  []step // those that are not yet taken
	result int    // what is told when it is done
}

// refusal is why none of a kind of which one at a time is at work can begin.
func (e *Engine) refusal(k kind) api.Errno {
	switch {
	case e.fault != api.OK:
		return e.fault
	case e.working[k] > 0:
		return api.ErrBusy
	case k != compacts && e.next > lastNumber:
		return api.ErrFull
	}
	return api.OK
}

// begin puts a machine to work.
func (e *Engine) begin(k kind, steps ...step) *machine {
	e.begun++
	m := &machine{kind: k, number: e.begun, steps: steps}
	e.machines[m.number] = m
	e.working[k]++
	return m
}

// end takes a machine from work.
func (e *Engine) end(m *machine) {
	e.working[m.kind]--
	delete(e.machines, m.number)
}

// Move has a machine take its next step (P9).
func (e *Engine) Move(machine int) (bool, int, api.Errno) {
	if e.fault != api.OK {
		return false, 0, e.fault
	}
	m := e.machines[machine]
	if m == nil {
		return false, 0, api.ErrMachine
	}
	done := m.steps[0]()
	m.steps = m.steps[1:]
	if fault := e.checkPower(); fault != api.OK {
		return false, 0, fault
	}
	if !done {
		return false, 0, api.OK
	}
	e.end(m)
	return true, m.result, api.OK
}
