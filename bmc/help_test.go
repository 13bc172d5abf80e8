package bmc_test

import (
	"fmt"
	"math/rand/v2"
	"reflect"
	"slices"
	"testing"

	"sluicegate/api"
	"sluicegate/blast"
	"sluicegate/bmc"
	"sluicegate/bv"
	"sluicegate/cnf"
	"sluicegate/cyc"
	"sluicegate/memabs"
	"sluicegate/net"
	"sluicegate/rup"
	"sluicegate/sample"
	"sluicegate/synth"
	"sluicegate/unroll"
)

const (
	least = -1 << 63
	most  = 1<<63 - 1
)

func chooser(a, b uint64) sample.Choice { return rand.New(rand.NewPCG(a, b)).IntN }

func vec(width int, n uint64) bv.Vec {
	v, _ := bv.New(width, n)
	return v
}

// show writes something without a difference between nil and empty lists.
func show(x any) string { return fmt.Sprintf("%+v", x) }

// showNet writes all of a netlist that is exported.
func showNet(n *net.Net) string {
	if n == nil {
		return "none"
	}
	return show(n.Nodes) + show(n.Inputs) + show(n.Regs) + show(n.Mems) + show(n.Outs) + show(n.Asserts)
}

// add returns the number of a node.
func add(t *testing.T, n *net.Net, x net.Node) int {
	t.Helper()
	i, err := n.Add(x)
	if err != api.OK {
		t.Fatalf("P17.1: %+v: error %d", x, err)
	}
	return i
}

// input adds an input and returns its node.
func input(t *testing.T, n *net.Net, width int) int {
	t.Helper()
	n.Inputs = append(n.Inputs, net.Pin{Name: fmt.Sprint("i", len(n.Inputs)), Width: width})
	return add(t, n, net.Node{Kind: net.In, Width: width, Num: len(n.Inputs) - 1})
}

// register adds a register that keeps its value, and returns its node. Without an
// initial value, first is the zero Vec.
func register(t *testing.T, n *net.Net, width int, first bv.Vec) int {
	t.Helper()
	n.Regs = append(n.Regs, net.Register{Name: fmt.Sprint("r", len(n.Regs)), Width: width, First: first})
	i := add(t, n, net.Node{Kind: net.Reg, Width: width, Num: len(n.Regs) - 1})
	n.Regs[len(n.Regs)-1].Next = i
	return i
}

// number returns the node of a constant.
func number(t *testing.T, n *net.Net, v bv.Vec) int {
	t.Helper()
	return add(t, n, net.Node{Kind: net.Const, Width: v.Width(), Val: v})
}

// word returns the node of a word of the first memory.
func word(t *testing.T, n *net.Net, at int) int {
	t.Helper()
	return add(t, n, net.Node{Kind: net.Word, Width: n.Mems[0].Width, Args: []int{at}})
}

// bin returns the node of an operation.
func bin(t *testing.T, n *net.Net, op, x, y int) int {
	t.Helper()
	width := 1
	if op <= bv.Sar {
		width = n.Nodes[x].Width
	}
	return add(t, n, net.Node{Kind: net.Bin, Op: op, Width: width, Args: []int{x, y}})
}

// claim adds an assertion.
func claim(n *net.Net, on, is int) {
	n.Asserts = append(n.Asserts, net.Assert{Name: fmt.Sprint("p#", len(n.Asserts)), On: on, Is: is})
}

// counting returns a netlist with q <= q + 1 and assert (q != end).
func counting(t *testing.T, width int, first bv.Vec, end uint64) *net.Net {
	t.Helper()
	n := &net.Net{}
	q, one := register(t, n, width, first), number(t, n, vec(width, 1))
	n.Regs[0].Next = bin(t, n, bv.Add, q, one)
	claim(n, one, bin(t, n, bv.Ne, q, number(t, n, vec(width, end))))
	return n
}

// product returns a netlist without registers, with assert (a * b == b * a), which is
// not easy to decide.
func product(t *testing.T, width int) *net.Net {
	t.Helper()
	n := &net.Net{}
	a, b := input(t, n, width), input(t, n, width)
	claim(n, number(t, n, vec(1, 1)), bin(t, n, bv.Eq, bin(t, n, bv.Mul, a, b), bin(t, n, bv.Mul, b, a)))
	return n
}

// source returns the netlist of a module.
func source(t *testing.T, text string) *net.Net {
	t.Helper()
	d, ok := sample.Elaborated(text)
	if !ok {
		t.Fatalf("no design: %s", text)
	}
	r, _, err := synth.Synth(d)
	if err != api.OK {
		t.Fatalf("P18.1: error %d", err)
	}
	return r.Net
}

// mustCheck returns the answer for a netlist. It fails if the netlist changes, or if
// the answer is not one.
func mustCheck(t *testing.T, n *net.Net, bound, budget int) bmc.Answer {
	t.Helper()
	before := showNet(n)
	a, err := bmc.Check(n, bound, budget)
	if err != api.OK {
		t.Fatalf("P24.3: error %d\n%s", err, before)
	}
	if showNet(n) != before {
		t.Fatalf("P24.1: the netlist has changed\n%s", before)
	}
	mustBeForm(t, a, bound, budget)
	switch a.Verdict {
	case bmc.Safe:
		mustProve(t, n, a, bound)
	case bmc.Fail:
		mustReplay(t, n, a)
	}
	return a
}

// mustBeForm fails unless an answer has what is mentioned for its verdict, and
// nothing else.
func mustBeForm(t *testing.T, a bmc.Answer, bound, budget int) {
	t.Helper()
	rest := a
	rest.Verdict, rest.Cycles, rest.Conflicts = 0, 0, 0
	ok := a.Conflicts >= 0
	if calls := min(a.Cycles+1, bound); budget < most/20 {
		ok = ok && a.Conflicts <= calls*max(budget, 0)
	}
	switch a.Verdict {
	case bmc.Safe:
		ok = ok && a.Cycles == bound && len(a.Proofs) == bound
		rest.Proofs = nil
	case bmc.Fail:
		ok = ok && a.Cycles >= 1 && a.Cycles <= bound && len(a.Witness.Ins) == a.Cycles
		rest.Witness = bmc.Witness{}
	case bmc.Unknown:
		ok = ok && a.Cycles >= 0 && a.Cycles < bound
		ok = ok && (a.Why == api.ErrLimit || a.Why == api.ErrBudget && a.Conflicts >= max(budget, 0))
		rest.Why = 0
	}
	if !ok || !reflect.ValueOf(rest).IsZero() {
		t.Fatalf("P24.3: verdict %d, %d cycles, %d conflicts, error %d, %d proofs, witness %v; bound %d, budget %d",
			a.Verdict, a.Cycles, a.Conflicts, a.Why, len(a.Proofs), a.Witness, bound, budget)
	}
}

// cycles returns an unroller for a netlist.
func cycles(t *testing.T, n *net.Net, bound int) *unroll.Unroller {
	t.Helper()
	flat, err := memabs.Remove(n, bound)
	if err != api.OK {
		t.Fatalf("P20.1: error %d", err)
	}
	r, err := blast.Blast(flat.Net)
	if err != api.OK {
		t.Fatalf("P22.1: error %d", err)
	}
	var first []bv.Vec
	for _, x := range flat.Net.Regs {
		first = append(first, x.First)
	}
	return unroll.New(r, first...)
}

// failing returns the clauses of all cycles so far, and one which says that one of
// the assertions fails in the last one.
func failing(t *testing.T, u *unroll.Unroller, n *net.Net) *cnf.Cnf {
	t.Helper()
	var lits []int
	for i := range n.Asserts {
		lit, found := u.Bad(u.Frames()-1, i)
		if !found {
			t.Fatalf("P23.2: no assertion %d", i)
		}
		if !slices.Contains(lits, lit) {
			lits = append(lits, lit)
		}
	}
	c := u.Cnf()
	if err := c.Add(lits...); err != api.OK {
		t.Fatalf("P3.1: error %d", err)
	}
	return c
}

// mustProve fails unless the proofs of an answer are accepted. One that is empty is
// for a cycle in which unit propagation alone shows that no assertion fails.
func mustProve(t *testing.T, n *net.Net, a bmc.Answer, bound int) {
	t.Helper()
	if n == nil {
		n = &net.Net{}
	}
	u := cycles(t, n, bound)
	for i, proof := range a.Proofs {
		if err := u.Frame(); err != api.OK {
			t.Fatalf("P23.1: error %d", err)
		}
		c := failing(t, u, n)
		if len(proof) == 0 {
			if _, consistent := rup.Fixed(c); consistent {
				t.Fatalf("P24.4: no proof for cycle %d", i)
			}
		} else if at, err := rup.Check(c, proof...); err != api.OK {
			t.Fatalf("P24.4: the proof of cycle %d: clause %d, error %d", i, at, err)
		}
	}
}

// mustReplay fails unless the witness of an answer is valid.
func mustReplay(t *testing.T, n *net.Net, a bmc.Answer) {
	t.Helper()
	if ok, err := bmc.Replay(n, a.Witness); !ok || err != api.OK {
		t.Fatalf("P24.2: %v, error %d: %+v\n%s", ok, err, a.Witness, showNet(n))
	}
	if !isValid(t, n, a.Witness) {
		t.Fatalf("P24.2: %+v\n%s", a.Witness, showNet(n))
	}
}

// isValid reports whether a witness is valid, step by step.
func isValid(t *testing.T, n *net.Net, w bmc.Witness) bool {
	t.Helper()
	s := w.Start
	for i, ins := range w.Ins {
		after, seen, err := cyc.Step(n, s, ins...)
		if err != api.OK {
			t.Fatalf("P19.2: error %d", err)
		}
		fails := slices.ContainsFunc(seen, func(x cyc.Seen) bool { return !x.Holds })
		if last := i == len(w.Ins)-1; last && !slices.Contains(seen, cyc.Seen{Assert: w.Assert}) || !last && fails {
			return false
		}
		s = after
	}
	for i, x := range n.Regs {
		if x.First.Width() > 0 && x.First != w.Start.Regs[i] {
			return false
		}
	}
	return len(w.Ins) > 0
}
