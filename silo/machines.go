package silo

import "silo/api"

// kind is what a machine does.
type kind int

const (
	appends kind = iota
	cuts
	kinds // how many there are
)

// step is one of a machine's. It tells whether nothing is left to be done.
type step func() (done bool)

// machine is work that goes on from step to step.
type machine struct {
	kind  kind
	steps []step // those that are not yet taken
}

// begin puts a machine to work; its number.
func (e *Engine) begin(k kind, steps ...step) int {
	e.begun++
	e.machines[e.begun] = &machine{kind: k, steps: steps}
	e.working[k]++
	return e.begun
}

// end takes a machine from work.
func (e *Engine) end(number int) {
	e.working[e.machines[number].kind]--
	delete(e.machines, number)
}

// Move has a machine take its next step (P9).
func (e *Engine) Move(machine int) (bool, int, api.Errno) {
	if e.fault != api.OK {
		return false, 0, e.fault
	}
	m := e.machines[machine]
	if m == nil {
		return false, 0, api.ErrMachine
	}
	done := m.steps[0]()
	m.steps = m.steps[1:]
	if fault := e.checkPower(); fault != api.OK {
		return false, 0, fault
	}
	if done {
		e.end(machine)
	}
	return done, 0, api.OK
}
