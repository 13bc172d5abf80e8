package bmc

import (
	"slices"

	"sluicegate/api"
	"sluicegate/blast"
	"sluicegate/bv"
	"sluicegate/cnf"
	"sluicegate/cyc"
	"sluicegate/memabs"
	"sluicegate/net"
	"sluicegate/rup"
	"sluicegate/sat"
	"sluicegate/unroll"
)

// encoder encodes the cycles of a netlist, one after the other.
type encoder struct {
	*unroll.Unroller
	net  *net.Net
	flat memabs.Result // the netlist without memories, whose cycles are unrolled
}

// newEncoder returns an encoder without cycles.
func newEncoder(n *net.Net, bound int) (*encoder, api.Errno) {
	if n == nil {
		n = &net.Net{}
	}
	flat, err := memabs.Remove(n, bound)
	if err != api.OK {
		return nil, err
	}
	bits, err := blast.Blast(flat.Net)
	if err != api.OK {
		return nil, err
	}
	var first []bv.Vec
	for _, x := range flat.Net.Regs {
		first = append(first, x.First)
	}
	return &encoder{Unroller: unroll.New(bits, first...), net: n, flat: flat}, api.OK
}

// search decides the cycles in order, until it knows the answer.
func (e *encoder) search(bound, budget int) Answer {
	var a Answer
	var proofs [][][]int
	for range bound {
		x, err := e.decide(budget)
		a.Conflicts += x.Conflicts
		switch {
		case err != api.OK:
			a.Why = err
			return a
		case x.Verdict == sat.Sat:
			a.Verdict, a.Cycles, a.Witness = Fail, e.Frames(), e.witness(x.Model)
			return a
		}
		a.Cycles++
		proofs = append(proofs, x.Proof)
	}
	a.Verdict, a.Proofs = Safe, proofs
	return a
}

// decide adds a cycle and decides whether an assertion can fail in it. That none can
// is not believed without a proof.
func (e *encoder) decide(budget int) (sat.Result, api.Errno) {
	c, err := e.next()
	if err != api.OK {
		return sat.Result{}, err
	}
	x := sat.Solve(c, budget)
	switch x.Verdict {
	case sat.Unknown:
		return x, api.ErrBudget
	case sat.Unsat:
		_, err = rup.Check(c, x.Proof...)
	}
	return x, err
}

// next adds a cycle, and returns the clauses with one more which says that an
// assertion fails in it.
func (e *encoder) next() (*cnf.Cnf, api.Errno) {
	if err := e.Frame(); err != api.OK {
		return nil, err
	}
	// A clause has room for fewer literals than there may be assertions, but many of
	// these may have the same.
	bads := e.bads()
	slices.Sort(bads)
	c := e.Cnf()
	return c, c.Add(slices.Compact(bads)...)
}

// bads returns the literals that tell which assertions fail in the last cycle.
func (e *encoder) bads() []int {
	var list []int
	for i := range e.net.Asserts {
		bad, _ := e.Bad(e.Frames()-1, i)
		list = append(list, bad)
	}
	return list
}

// witness returns the run that a model is.
func (e *encoder) witness(model []bool) Witness {
	isTrue := func(lit int) bool { return unroll.Truth(model, lit) }
	w := Witness{Start: e.start(model), Assert: slices.IndexFunc(e.bads(), isTrue)}
	for cycle := range e.Frames() {
		var ins []bv.Vec
		for i := range e.net.Inputs {
			ins = append(ins, word(model, func(bit int) (int, bool) { return e.In(cycle, i, bit) }))
		}
		w.Ins = append(w.Ins, ins)
	}
	return w
}

// start returns the state of the netlist in which the run that a model is begins.
func (e *encoder) start(model []bool) cyc.State {
	first := func(reg int) bv.Vec {
		return word(model, func(bit int) (int, bool) { return e.Reg(0, reg, bit) })
	}
	var s cyc.State
	for _, reg := range e.flat.Regs {
		s.Regs = append(s.Regs, first(reg))
	}
	for _, regs := range e.flat.First {
		var words []bv.Vec
		for _, reg := range regs {
			words = append(words, first(reg))
		}
		s.Words = append(s.Words, words)
	}
	return s
}

// word returns the vector whose bits have the literals that the function returns,
// which says after the last bit that there are no more.
func word(model []bool, bit func(i int) (int, bool)) bv.Vec {
	var bits []bool
	for lit, found := bit(0); found; lit, found = bit(len(bits)) {
		bits = append(bits, unroll.Truth(model, lit))
	}
	v, _ := bv.Of(bits...)
	return v
}
