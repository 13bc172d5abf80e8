package wit

import (
	"sluicegate/api"
	"sluicegate/bmc"
	"sluicegate/cyc"
	"sluicegate/evsim"
	"sluicegate/exec"
	"sluicegate/flat"
	"sluicegate/synth"
)

// Fault is an assertion that does not hold.
type Fault struct{ Cycle, Assert int }

// Simulate runs a witness on the simulator. It returns the assertions that do not
// hold.
func Simulate(d flat.Design, w bmc.Witness, picks ...int) ([]Fault, api.Errno) {
	// The errors of evsim.New are those of flat.Analyze, which Synth returns before its
	// own: after it, New has none.
	r, _, err := synth.Synth(d)
	if err != api.OK {
		return nil, err
	}
	if !cyc.Fits(r.Net, w.Start) {
		return nil, api.ErrRange
	}
	sim, _, _ := evsim.New(d, stateOf(d, r, w.Start))
	var faults []Fault
	for i, ins := range w.Ins {
		checks, err := sim.Cycle(ins, picks...)
		if err != api.OK {
			return nil, err
		}
		for _, c := range checks {
			if !c.Holds {
				faults = append(faults, Fault{i, c.Assert})
			}
		}
	}
	return faults, api.OK
}

// stateOf returns the state of a design that a state of its netlist is.
func stateOf(d flat.Design, r synth.Result, s cyc.State) *exec.State {
	state := exec.New(d)
	for i, sig := range r.Regs {
		state.SetSig(sig, s.Regs[i])
	}
	for i, sig := range r.Mems {
		for at, v := range s.Words[i] {
			state.SetWord(sig, at, v)
		}
	}
	return state
}
