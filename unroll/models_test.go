package unroll_test

import (
	"slices"
	"testing"

	"sluicegate/aig"
	"sluicegate/api"
	"sluicegate/blast"
	"sluicegate/bv"
	"sluicegate/cyc"
	"sluicegate/net"
	"sluicegate/sample"
	"sluicegate/sat"
	"sluicegate/unroll"
)

// mustModel fails unless the clauses, given what a run begins with and its inputs,
// have one model, which is what the cycles of the netlist compute. It returns how
// often an assertion failed.
func mustModel(t *testing.T, u *unroll.Unroller, n *net.Net, start cyc.State, ins [][]bv.Vec) int {
	t.Helper()
	c := u.Cnf()
	for i, x := range n.Regs {
		if x.First.Width() == 0 {
			force(t, c, start.Regs[i].Bits(), func(bit int) (int, bool) { return u.Reg(0, i, bit) })
		}
	}
	for k, list := range ins {
		for i, v := range list {
			force(t, c, v.Bits(), func(bit int) (int, bool) { return u.In(k, i, bit) })
		}
	}
	model := mustFix(t, c)
	bads, s := 0, start
	for k, list := range ins {
		for i, v := range s.Regs {
			if got := textOf(model, func(bit int) (int, bool) { return u.Reg(k, i, bit) }); got != v.Text() {
				t.Fatalf("P23.2: register %d is %s in cycle %d, not %s", i, got, k, v.Text())
			}
		}
		after, seen, err := cyc.Step(n, s, list...)
		if err != api.OK {
			t.Fatalf("P19.2: error %d", err)
		}
		for i := range n.Asserts {
			lit, found := u.Bad(k, i)
			fails := slices.Contains(seen, cyc.Seen{Assert: i})
			if !found || unroll.Truth(model, lit) != fails {
				t.Fatalf("P23.2: assertion %d in cycle %d: literal %d, %v; it fails: %v", i, k, lit, found, fails)
			}
			if fails {
				bads++
			}
		}
		s = after
	}
	return bads
}

// anyRun returns a state with which a netlist begins, and inputs.
func anyRun(pick sample.Choice, n *net.Net, cycles int) (cyc.State, [][]bv.Vec) {
	s := cyc.State{Regs: pick.Values(n).Regs}
	for i, x := range n.Regs {
		if x.First.Width() > 0 {
			s.Regs[i] = x.First
		}
	}
	var ins [][]bv.Vec
	for range cycles {
		ins = append(ins, pick.Values(n).Ins)
	}
	return s, ins
}

// TestP23_1AnyNet: all kinds of netlists, with any number of cycles.
func TestP23_1AnyNet(t *testing.T) {
	pick := chooser(23, 1)
	cycles, asserts, bads := 0, 0, 0
	for range 400 {
		n, r := withoutMemories(t, pick)
		u := mustUnroll(t, 1+pick(4)*pick(4), r, firsts(n)...)
		mustBeShort(t, u, r)
		for range 4 {
			s, ins := anyRun(pick, n, u.Frames())
			bads += mustModel(t, u, n, s, ins)
		}
		cycles, asserts = cycles+u.Frames(), asserts+u.Frames()*len(n.Asserts)
	}
	if cycles < 1000 || asserts < 1000 || bads < 1000 {
		t.Errorf("P23.1: only %d cycles, %d assertions in them, and %d failures", cycles, asserts, bads)
	}
}

// TestP23_1AllRuns: all values of registers and inputs of small netlists.
func TestP23_1AllRuns(t *testing.T) {
	for op := bv.Add; op <= bv.Sle; op++ {
		for first := range uint64(5) {
			n := &net.Net{}
			a, q := input(t, n, 2), register(t, n, 2)
			if first < 4 {
				n.Regs[0].First = vec(2, first)
			}
			x := bin(t, n, op, q, a)
			n.Regs[0].Next = bin(t, n, bv.Xor, q, bin(t, n, bv.And, a, bin(t, n, bv.Add, q, a)))
			if n.Nodes[x].Width == 2 {
				n.Regs[0].Next = x
			}
			n.Asserts = []net.Assert{{On: a, Is: q}, {On: x, Is: a}, {On: q, Is: x}}
			u := mustUnroll(t, 3, mustBlast(t, n), n.Regs[0].First)
			for all := range uint64(256) {
				s := cyc.State{Regs: []bv.Vec{n.Regs[0].First}}
				if first == 4 {
					s.Regs[0] = vec(2, all)
				}
				mustModel(t, u, n, s, [][]bv.Vec{{vec(2, all>>2)}, {vec(2, all>>4)}, {vec(2, all>>6)}})
			}
		}
	}
}

// TestP23_1Example: the example of the chapter.
func TestP23_1Example(t *testing.T) {
	n := &net.Net{}
	n.Regs = []net.Register{{Name: "q", Width: 1, First: vec(1, 0)}}
	n.Regs[0].Next = un(t, n, bv.Not, add(t, n, net.Node{Kind: net.Reg, Width: 1}))
	u := mustUnroll(t, 3, mustBlast(t, n), vec(1, 0))
	for frame, want := range []bool{false, true, false} {
		lit, found := u.Reg(frame, 0, 0)
		c := u.Cnf()
		if want {
			c.Add(-lit)
		} else {
			c.Add(lit)
		}
		if x := sat.Solve(c, 100); !found || x.Verdict != sat.Unsat {
			t.Errorf("P23.2: cycle %d: literal %d, %v, verdict %d", frame, lit, found, x.Verdict)
		}
	}
	if x := sat.Solve(u.Cnf(), 100); x.Verdict != sat.Sat {
		t.Errorf("P23.1: verdict %d", x.Verdict)
	}
}

// TestP23_1Initial: initial values that have fewer bits than the register, or more;
// none; and more of them than there are registers.
func TestP23_1Initial(t *testing.T) {
	n := &net.Net{}
	for range 5 {
		register(t, n, 4)
	}
	r := mustBlast(t, n)
	for _, x := range []struct {
		first []bv.Vec
		want  []string
	}{
		{nil, []string{"xxxx", "xxxx", "xxxx", "xxxx", "xxxx"}},
		{[]bv.Vec{vec(4, 9)}, []string{"1001", "xxxx", "xxxx", "xxxx", "xxxx"}},
		{[]bv.Vec{{}, vec(2, 3), vec(1, 1), {}, vec(100, 0xf6)}, []string{"xxxx", "0011", "0001", "xxxx", "0110"}},
		{[]bv.Vec{vec(4, 15), vec(1, 0), vec(3, 4), vec(4, 0), vec(4, 1), vec(4, 2), {}}, []string{"1111", "0000", "0100", "0000", "0001"}},
	} {
		u := mustUnroll(t, 2, r, x.first...)
		for reg, want := range x.want {
			for bit := range 4 {
				digit := want[3-bit]
				if got := possible(u, reg, bit); got != digit {
					t.Errorf("P23.1: %v: bit %d of register %d is %c, not %c", x.first, bit, reg, got, digit)
				}
			}
		}
		mustBeShort(t, u, r)
	}
}

// possible returns the only value of a bit of a register in the first cycle, or x.
func possible(u *unroll.Unroller, reg, bit int) byte {
	var can [2]bool
	for i := range can {
		lit, _ := u.Reg(0, reg, bit)
		c := u.Cnf()
		c.Add(lit * (2*i - 1))
		can[i] = sat.Solve(c, 100).Verdict == sat.Sat
	}
	switch can {
	case [2]bool{true, false}:
		return '0'
	case [2]bool{false, true}:
		return '1'
	case [2]bool{true, true}:
		return 'x'
	}
	return '-'
}

// TestP23_1Independent: free registers and inputs have variables of their own.
func TestP23_1Independent(t *testing.T) {
	n := &net.Net{}
	for range 3 {
		input(t, n, 3)
		register(t, n, 2)
	}
	n.Regs[1].Next = n.Regs[0].Next
	u := mustUnroll(t, 4, mustBlast(t, n), bv.Vec{}, vec(2, 1))
	seen := map[int]bool{}
	mustBeNew := func(lit int, found bool) {
		if lit = max(lit, -lit); !found || seen[lit] || lit < 1 || lit > u.Cnf().Vars() {
			t.Errorf("P23.1: literal %d, %v", lit, found)
		}
		seen[lit] = true
	}
	for frame := range 4 {
		for i := range 9 {
			mustBeNew(u.In(frame, i/3, i%3))
		}
	}
	for _, reg := range []int{0, 2} {
		mustBeNew(u.Reg(0, reg, 0))
		mustBeNew(u.Reg(0, reg, 1))
	}
}

// TestP23_2Graphs: graphs that were not made by blast: inputs in any order and
// between the ANDs, registers whose literals are negated, and next values that are
// constants or inputs.
func TestP23_2Graphs(t *testing.T) {
	pick := chooser(23, 2)
	for range 300 {
		r := anyGraph(t, pick)
		first := []bv.Vec{pick.Vec(2), {}}
		u := mustUnroll(t, 1+pick(5), r, first...)
		mustBeShort(t, u, r)
		for range 3 {
			mustCompute(t, pick, u, r, first)
		}
	}
}

// anyGraph returns a result with two inputs and two registers of two bits.
func anyGraph(t *testing.T, pick sample.Choice) blast.Result {
	t.Helper()
	g := aig.New()
	var free []int
	lits := []int{aig.No, aig.Yes}
	literal := func() int { return lits[pick(len(lits))] ^ pick(2) }
	for len(free) < 8 || g.Len() < 20 {
		lit, err := aig.No, api.OK
		if len(free) < 8 && pick(2) == 0 {
			lit, err = g.Input()
			free = append(free, lit)
		} else {
			lit, err = g.And(literal(), literal())
		}
		if err != api.OK {
			t.Fatalf("P21.1: error %d", err)
		}
		lits = append(lits, lit)
	}
	for i := len(free) - 1; i > 0; i-- {
		k := pick(i + 1)
		free[i], free[k] = free[k], free[i]
	}
	for i := range free {
		free[i] ^= pick(2)
	}
	r := blast.Result{Graph: g, Ins: [][]int{free[:2:2], free[2:4:4]}, Regs: [][]int{free[4:6:6], free[6:8:8]}}
	for range 2 {
		r.Next = append(r.Next, []int{literal(), literal()})
	}
	for range 4 {
		r.On, r.Is = append(r.On, literal()), append(r.Is, literal())
	}
	return r
}

// mustCompute fails unless the clauses have one model for any values of inputs and
// free registers, which is what the graph computes.
func mustCompute(t *testing.T, pick sample.Choice, u *unroll.Unroller, r blast.Result, first []bv.Vec) {
	t.Helper()
	values := make([][]bool, r.Graph.Len()) // of each node that is an input, in each cycle
	for i := range values {
		values[i] = make([]bool, u.Frames())
	}
	assign := func(frame, lit int, value bool) { values[lit/2][frame] = value != (lit%2 == 1) }
	c := u.Cnf()
	for frame := range u.Frames() {
		for i, lits := range r.Ins {
			bits := []bool{pick(2) == 0, pick(2) == 0}
			force(t, c, bits, func(bit int) (int, bool) { return u.In(frame, i, bit) })
			assign(frame, lits[0], bits[0])
			assign(frame, lits[1], bits[1])
		}
	}
	bits := [][]bool{first[0].Bits(), {pick(2) == 0, pick(2) == 0}}
	force(t, c, bits[1], func(bit int) (int, bool) { return u.Reg(0, 1, bit) })
	model := mustFix(t, c)
	for frame := range u.Frames() {
		for i, lits := range r.Regs {
			v, _ := bv.Of(bits[i]...)
			if got := textOf(model, func(bit int) (int, bool) { return u.Reg(frame, i, bit) }); got != v.Text() {
				t.Fatalf("P23.2: register %d is %s in cycle %d, not %s", i, got, frame, v.Text())
			}
			assign(frame, lits[0], bits[i][0])
			assign(frame, lits[1], bits[i][1])
		}
		vals := evaluate(r.Graph, values, frame)
		for i := range r.On {
			lit, found := u.Bad(frame, i)
			if want := aig.Is(vals, r.On[i]) && !aig.Is(vals, r.Is[i]); !found || unroll.Truth(model, lit) != want {
				t.Fatalf("P23.2: assertion %d in cycle %d: literal %d, %v; it fails: %v", i, frame, lit, found, want)
			}
		}
		bits = [][]bool{evaluated(vals, r.Next[0]), evaluated(vals, r.Next[1])}
	}
}

// evaluate returns the values of all nodes in a cycle.
func evaluate(g *aig.Graph, values [][]bool, frame int) []bool {
	var inputs []bool
	for i := 1; i < g.Len(); i++ {
		if _, _, isAnd := g.Fan(i); !isAnd {
			inputs = append(inputs, values[i][frame])
		}
	}
	return g.Eval(inputs...)
}

// TestP23_2Truth: the value of a literal.
func TestP23_2Truth(t *testing.T) {
	model := []bool{true, false, true}
	for lit, want := range map[int]bool{
		0: false, 1: true, -1: false, 2: false, -2: true, 3: true, -3: false,
		4: false, -4: true, most: false, -most: true, least: true,
	} {
		if got := unroll.Truth(model, lit); got != want {
			t.Errorf("P23.2: %d is %v", lit, got)
		}
		if got := unroll.Truth(nil, lit); got != (lit < 0) {
			t.Errorf("P23.2: %d is %v without a model", lit, got)
		}
	}
}
