package unroll_test

import (
	"math/rand/v2"
	"slices"
	"testing"

	"sluicegate/aig"
	"sluicegate/api"
	"sluicegate/blast"
	"sluicegate/bv"
	"sluicegate/net"
	"sluicegate/rup"
	"sluicegate/sample"
	"sluicegate/unroll"
)

// mustBeFull fails unless there is no room for another cycle, and nothing changes.
func mustBeFull(t *testing.T, u *unroll.Unroller) {
	t.Helper()
	before := showUnroller(u)
	for range 2 {
		if err := u.Frame(); err != api.ErrLimit {
			t.Fatalf("P23.1: error %d after %d cycles", err, u.Frames())
		}
		if showUnroller(u) != before {
			t.Fatalf("P23.1: a cycle for which there is no room changes something")
		}
		if _, found := u.In(u.Frames(), 0, 0); found {
			t.Fatalf("P23.1: an input of a cycle that does not exist")
		}
	}
}

// TestP23_1Bound: as many cycles as there can be, and one more.
func TestP23_1Bound(t *testing.T) {
	pick := chooser(23, 10)
	for range 20 {
		n, r := withoutMemories(t, pick)
		if r.Graph.Len() > 1000 {
			continue
		}
		mustBeFull(t, mustUnroll(t, api.MaxBound, r, firsts(n)...))
	}
	mustBeFull(t, mustUnroll(t, api.MaxBound, blast.Result{}))
}

// someInputs returns a result with one input of so many bits.
func someInputs(t *testing.T, count int) blast.Result {
	t.Helper()
	r := blast.Result{Graph: aig.New(), Ins: make([][]int, 1)}
	for range count {
		lit, err := r.Graph.Input()
		if err != api.OK {
			t.Fatalf("P21.1: error %d", err)
		}
		r.Ins[0] = append(r.Ins[0], lit)
	}
	return r
}

// TestP23_1Variables: each bit of an input needs a variable in each cycle. If there
// are as many variables as nodes in all cycles, there is room for them.
func TestP23_1Variables(t *testing.T) {
	for _, x := range []struct{ inputs, cycles int }{
		{api.MaxVars - 1, 1}, {30001, 1}, {api.MaxVars/2 - 1, 2}, {20001, 2}, {api.MaxVars/3 - 1, 3}, {api.MaxVars/11 - 1, 11},
	} {
		u := mustUnroll(t, x.cycles, someInputs(t, x.inputs))
		mustBeFull(t, u)
		if got := u.Cnf().Vars(); got < x.inputs*x.cycles || got > (x.inputs+1)*x.cycles {
			t.Errorf("P23.1: %d variables for %v", got, x)
		}
	}
	mustUnroll(t, api.MaxBound, someInputs(t, api.MaxVars/api.MaxBound-1))
}

// tangled returns a result with so many nodes, on each of which an assertion or a
// register depends.
func tangled(t *testing.T, pick sample.Choice, size int) blast.Result {
	t.Helper()
	r := someInputs(t, 10)
	lits := slices.Clone(r.Ins[0])
	for i := range 6 {
		lit, _ := r.Graph.Input()
		lits = append(lits, lit)
		r.Regs = append(r.Regs, []int{lit})
		r.Next = append(r.Next, []int{r.Ins[0][i] ^ 1})
	}
	free := map[int]bool{}
	for r.Graph.Len() < size {
		a, b := pick(len(lits)), max(0, len(lits)-1-pick(20))
		lit, err := r.Graph.And(lits[a]^pick(2), lits[b]^pick(2))
		if err != api.OK {
			t.Fatalf("P21.1: error %d", err)
		}
		if lit == 2*r.Graph.Len()-2 && !free[lit] {
			lits = append(lits, lit)
			free[lit] = true
		}
	}
	r.On, r.Is = lits, make([]int, len(lits))
	return r
}

// TestP23_1Nodes: if there are as many variables as nodes in all cycles, there is
// room for them; if there is not, nothing of a cycle remains.
func TestP23_1Nodes(t *testing.T) {
	pick := chooser(23, 11)
	for _, cycles := range []int{1, 5, 12} {
		u := mustUnroll(t, cycles, tangled(t, pick, api.MaxVars/cycles))
		if cycles == api.MaxBound {
			mustBeFull(t, u)
		}
	}
	u := unroll.New(tangled(t, pick, 25000))
	for u.Frame() == api.OK {
	}
	if count := u.Frames(); count < 2 || count >= api.MaxBound {
		t.Fatalf("P23.1: %d cycles", count)
	}
	mustBeFull(t, u)
}

// TestP23_1Asserts: assertions with the same literals need as much as one of them,
// and others at most a variable each.
func TestP23_1Asserts(t *testing.T) {
	r := someInputs(t, 40)
	for range 20000 {
		r.On, r.Is = append(r.On, 2, 4, 5), append(r.Is, 6, 6, 8)
	}
	three := r
	three.On, three.Is = r.On[:3], r.Is[:3]
	mustBeShort(t, mustUnroll(t, 12, r), three)
	r.On, r.Is = nil, nil
	for _, on := range r.Ins[0] {
		for _, is := range r.Ins[0] {
			r.On, r.Is = append(r.On, on), append(r.Is, is)
		}
	}
	mustBeShort(t, mustUnroll(t, 3, r), r)
}

// TestP23_1Cnf: each call returns a formula of its own.
func TestP23_1Cnf(t *testing.T) {
	n, r := withoutMemories(t, chooser(23, 12))
	u := mustUnroll(t, 3, r, firsts(n)...)
	before := showUnroller(u)
	for range 2 {
		c := u.Cnf()
		if c.Text() != u.Cnf().Text() || c == u.Cnf() {
			t.Fatal("P23.1: another formula")
		}
		c.Add(1)
		c.Add()
		c.Var()
		if showUnroller(u) != before {
			t.Fatal("P23.1: a formula is shared")
		}
	}
	mustAdd(t, u)
}

// TestP23_1None: without a cycle there are no clauses and no literals.
func TestP23_1None(t *testing.T) {
	n, r := withoutMemories(t, chooser(23, 13))
	u := unroll.New(r, firsts(n)...)
	if u.Frames() != 0 || u.Cnf() == nil || u.Cnf().Len() != 0 || u.Cnf().Vars() != 0 {
		t.Errorf("P23.1: %s", showUnroller(u))
	}
	if _, found := u.In(0, 0, 0); found {
		t.Error("P23.1: an input")
	}
}

// TestP23_1NoSuch: there are no literals of what does not exist.
func TestP23_1NoSuch(t *testing.T) {
	n := &net.Net{}
	a, q := input(t, n, 3), register(t, n, 2)
	n.Inputs = append(n.Inputs, net.Pin{Name: "none"})
	n.Asserts = []net.Assert{{On: a, Is: q}}
	u := mustUnroll(t, 2, mustBlast(t, n))
	isThere := func(kind, frame, i, bit int) bool {
		if frame < 0 || frame > 1 || i != 0 || bit < 0 {
			return false
		}
		return bit < []int{3, 2, 1}[kind]
	}
	some := []int{least, -2, -1, 0, 1, 2, 3, 4, 64, 1 << 40, most}
	for _, frame := range some {
		for _, i := range some {
			for _, bit := range some {
				in, isIn := u.In(frame, i, bit)
				reg, isReg := u.Reg(frame, i, bit)
				if isIn != isThere(0, frame, i, bit) || isIn != (in != 0) || isReg != isThere(1, frame, i, bit) || isReg != (reg != 0) {
					t.Errorf("P23.1: cycle %d, %d, bit %d: %d, %v, %d, %v", frame, i, bit, in, isIn, reg, isReg)
				}
			}
			if bad, isBad := u.Bad(frame, i); isBad != isThere(2, frame, i, 0) || isBad != (bad != 0) {
				t.Errorf("P23.1: cycle %d, assertion %d: %d, %v", frame, i, bad, isBad)
			}
		}
	}
}

// TestP23_1Odd: results that do not belong to a netlist.
func TestP23_1Odd(t *testing.T) {
	g := aig.New()
	g.Input()
	g.Input()
	g.And(2, 4)
	odd := []int{least, -2, -1, 0, 1, 2, 3, 4, 5, 6, 7, 8, 9, 1 << 40, most}
	pick := chooser(23, 14)
	any := func() []int {
		var list []int
		for range pick(5) {
			list = append(list, odd[pick(len(odd))])
		}
		return list
	}
	lists := func() [][]int { return [][]int{any(), any()}[:pick(3)] }
	for range 2000 {
		r := blast.Result{Graph: g, Ins: lists(), Regs: lists(), Next: lists(), On: any(), Is: any()}
		if pick(10) == 0 {
			r.Graph = nil
		}
		first := []bv.Vec{pick.Vec(3), {}, pick.Vec(1)}[:pick(4)]
		u, again := mustUnroll(t, 4, r, first...), mustUnroll(t, 4, r, first...)
		if showUnroller(u) != showUnroller(again) {
			t.Fatalf("P23.1: %s\nis not\n%s", showUnroller(u), showUnroller(again))
		}
	}
}

// TestP23_2Missing: a literal that the graph does not have is false, as are the next
// values that registers do not have.
func TestP23_2Missing(t *testing.T) {
	r := someInputs(t, 1)
	lit, _ := r.Graph.Input()
	for _, none := range []int{least, -2, -1, 2 * r.Graph.Len(), 2*r.Graph.Len() + 1, most} {
		r.Regs, r.Next = [][]int{{lit, aig.Yes}, {none}}, [][]int{{}}
		r.Ins = [][]int{r.Ins[0][:1:1], {none, aig.Yes, aig.No}}
		r.On = []int{none, aig.Yes, aig.Yes, lit, aig.No, aig.Yes}
		r.Is = []int{aig.No, none, lit, aig.No, aig.No, aig.Yes}
		u := mustUnroll(t, 2, r, vec(1, 1))
		for frame, want := range [][]bool{{false, true, false, true, false, false}, {false, true, true, false, false, false}} {
			for i, is := range want {
				bad, found := u.Bad(frame, i)
				if !is {
					bad = -bad
				}
				if !found || !rup.Follows(u.Cnf(), bad) {
					t.Errorf("P23.2: assertion %d in cycle %d: literal %d is not %v", i, frame, bad, is)
				}
			}
		}
	}
}

// TestP23_1Known: what is known in a cycle needs no variable.
func TestP23_1Known(t *testing.T) {
	n := &net.Net{}
	a, q, p := input(t, n, 4), register(t, n, 4), register(t, n, 4)
	one := number(t, n, vec(4, 1))
	n.Regs[0].Next = bin(t, n, bv.Add, q, one)
	n.Regs[1].Next = bin(t, n, bv.Mul, p, q)
	n.Asserts = []net.Assert{{On: q, Is: bin(t, n, bv.Ult, p, q)}, {On: p, Is: q}, {On: bin(t, n, bv.Eq, q, one), Is: a}}
	u := mustUnroll(t, 12, mustBlast(t, n), vec(4, 0), vec(4, 3))
	// Only the input and whether any of its bits is set are not.
	if got := u.Cnf().Vars(); got > 1+12*(4+3) {
		t.Errorf("P23.1: %d variables", got)
	}
}

// TestP23_1Free: an input of the graph that belongs to nothing is false, as it is in
// Eval.
func TestP23_1Free(t *testing.T) {
	r := someInputs(t, 2)
	lit, _ := r.Graph.Input()
	both, _ := r.Graph.And(lit^1, 2)
	r.On, r.Is = []int{lit, both}, []int{aig.No, aig.No}
	u := mustUnroll(t, 3, r)
	for k := range 3 {
		c := u.Cnf()
		for i := range 3 {
			force(t, c, []bool{i == k, true}, func(bit int) (int, bool) { return u.In(i, 0, bit) })
		}
		model := mustFix(t, c)
		for i := range 3 {
			x, _ := u.Bad(i, 0)
			y, _ := u.Bad(i, 1)
			if unroll.Truth(model, x) || unroll.Truth(model, y) != (i == k) {
				t.Errorf("P23.2: cycle %d: %d, %d", i, x, y)
			}
		}
	}
}

// TestP23_1Memory: an unroller keeps nothing of what it was given.
func TestP23_1Memory(t *testing.T) {
	for seed := range uint64(100) {
		n, r := withoutMemories(t, rand.New(rand.NewPCG(23, 100+seed)).IntN)
		first := firsts(n)
		given := show(r) + show(first)
		want := showUnroller(mustUnroll(t, 3, r, first...))
		u := unroll.New(r, first...)
		if show(r)+show(first) != given {
			t.Fatal("P23.1: the result has changed")
		}
		for _, list := range slices.Concat(r.Ins, r.Regs, r.Next, [][]int{r.On, r.Is}) {
			for i := range list {
				list[i] ^= 1
			}
		}
		clear(first)
		clear(r.Next)
		lit, _ := r.Graph.Input()
		r.Graph.And(lit, 2)
		for range 3 {
			mustAdd(t, u)
		}
		if showUnroller(u) != want {
			t.Fatalf("P23.1: what was given is kept: %s\nis not\n%s", showUnroller(u), want)
		}
	}
}
