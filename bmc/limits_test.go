package bmc_test

import (
	"reflect"
	"slices"
	"testing"

	"sluicegate/api"
	"sluicegate/bmc"
	"sluicegate/bv"
	"sluicegate/cyc"
	"sluicegate/net"
	"sluicegate/sample"
	"sluicegate/sat"
)

// mustReject fails unless Check returns an error and nothing else.
func mustReject(t *testing.T, what string, n *net.Net, bound int, want api.Errno) {
	t.Helper()
	for _, budget := range []int{least, 0, 100} {
		if a, err := bmc.Check(n, bound, budget); err != want || !reflect.ValueOf(a).IsZero() {
			t.Errorf("P24.3: %s: bound %d: error %d, not %d, %+v", what, bound, err, want, a)
		}
	}
	if got := bmc.Enough(n, bound); got != 0 {
		t.Errorf("P24.3: %s: bound %d: %d is enough", what, bound, got)
	}
}

// TestP24_3Errors: a bound that there is not comes before the errors of Check.
func TestP24_3Errors(t *testing.T) {
	for _, x := range []struct {
		what   string
		change func(n *net.Net)
		want   api.Errno
	}{
		{"nothing", func(n *net.Net) {}, api.OK},
		{"no kind", func(n *net.Net) { n.Nodes[1].Kind = 12 }, api.ErrInval},
		{"a width", func(n *net.Net) { n.Nodes[2].Width = 3 }, api.ErrWidth},
		{"an argument", func(n *net.Net) { n.Nodes[2].Args[0] = 2 }, api.ErrRange},
		{"an initial value", func(n *net.Net) { n.Regs[0].First = vec(5, 0) }, api.ErrWidth},
		{"no next value", func(n *net.Net) { n.Regs[0].Next = 99 }, api.ErrRange},
		{"no On", func(n *net.Net) { n.Asserts[0].On = -1 }, api.ErrRange},
		{"too many words", func(n *net.Net) { n.Mems = []net.Mem{{Width: 1, Words: 1 << 40}}; n.Nodes[1].Kind = 0 }, api.ErrInval},
	} {
		n := counting(t, 4, vec(4, 0), 9)
		x.change(n)
		for _, bound := range []int{least, -1, 0, 13, 14, most} {
			mustReject(t, x.what, n, bound, api.ErrRange)
		}
		for _, bound := range []int{1, 5, 12} {
			if x.want != api.OK {
				mustReject(t, x.what, n, bound, x.want)
			} else if bmc.Enough(n, bound) == 0 {
				t.Errorf("P24.3: nothing is enough for %d cycles", bound)
			} else {
				mustCheck(t, n, bound, 1000)
			}
		}
	}
}

// later returns a netlist in which nothing fails in the first cycles, but whose
// assertion is that of a netlist without registers thereafter.
func later(t *testing.T, n *net.Net, after int) *net.Net {
	t.Helper()
	q := register(t, n, 4, vec(4, 0))
	n.Regs[0].Next = bin(t, n, bv.Add, q, number(t, n, vec(4, 1)))
	n.Asserts[0].On = bin(t, n, bv.Ule, number(t, n, vec(4, uint64(after))), q)
	return n
}

// TestP24_3Budget: the budget counts for each cycle, and the number of conflicts is
// that of all cycles.
func TestP24_3Budget(t *testing.T) {
	n := later(t, product(t, 4), 2)
	var needed []int // the conflicts of each cycle
	u := cycles(t, n, 4)
	for range 4 {
		if err := u.Frame(); err != api.OK {
			t.Fatalf("P23.1: error %d", err)
		}
		needed = append(needed, sat.Solve(failing(t, u, n), 100000).Conflicts)
	}
	if needed[0] != 0 || needed[1] != 0 || needed[2] < 5 || needed[3] < 5 {
		t.Fatalf("P24.3: conflicts %v", needed)
	}
	for bound := 1; bound <= 4; bound++ {
		for budget := range max(needed[2], needed[3]) + 5 {
			a := mustCheck(t, n, bound, budget)
			decided, conflicts := 0, 0
			for decided < bound && needed[decided] <= budget {
				conflicts += needed[decided]
				decided++
			}
			if decided == bound && a.Verdict != bmc.Safe || decided < bound && (a.Verdict != bmc.Unknown || a.Why != api.ErrBudget) {
				t.Fatalf("P24.3: verdict %d, error %d; bound %d, budget %d, needed %v", a.Verdict, a.Why, bound, budget, needed)
			}
			if decided < bound {
				conflicts += budget
			}
			if a.Cycles != decided || a.Conflicts != conflicts {
				t.Fatalf("P24.3: %d cycles and %d conflicts, not %d and %d", a.Cycles, a.Conflicts, decided, conflicts)
			}
		}
		for _, budget := range []int{least, -1} {
			if a := mustCheck(t, n, bound, budget); show(a) != show(mustCheck(t, n, bound, 0)) {
				t.Errorf("P24.3: budget %d: %+v", budget, a)
			}
		}
	}
}

// TestP24_3Enough: Enough is that of the number of variables.
func TestP24_3Enough(t *testing.T) {
	pick := chooser(24, 10)
	few := 0
	for range 300 {
		n := tiny(t, pick)
		bound := 1 + pick(api.MaxBound)
		u := cycles(t, n, bound)
		for range bound {
			u.Frame()
		}
		got, want := bmc.Enough(n, bound), sat.Enough(u.Cnf().Vars())
		if got != want || got < 1 {
			t.Fatalf("P24.3: %d, not %d", got, want)
		}
		if got < most/2 {
			few++
		}
		if a := mustCheck(t, n, bound, got); a.Verdict == bmc.Unknown {
			t.Fatalf("P24.3: unknown, error %d\n%s", a.Why, showNet(n))
		}
	}
	if few < 20 {
		t.Errorf("P24.3: only %d netlists have few variables", few)
	}
}

// mustBeTooLarge fails unless there is room for so many cycles only, which are safe.
func mustBeTooLarge(t *testing.T, what string, n *net.Net, bound, count int) {
	t.Helper()
	for _, budget := range []int{0, 1000} {
		a := mustCheck(t, n, bound, budget)
		if a.Verdict != bmc.Unknown || a.Why != api.ErrLimit || a.Cycles != count {
			t.Errorf("P24.3: %s: verdict %d, error %d after %d cycles, not %d", what, a.Verdict, a.Why, a.Cycles, count)
		}
	}
	if got := bmc.Enough(n, bound); got != 0 {
		t.Errorf("P24.3: %s: %d is enough", what, got)
	}
	if count > 0 {
		if a := mustCheck(t, n, count, 1000); a.Verdict != bmc.Safe || bmc.Enough(n, count) == 0 {
			t.Errorf("P24.3: %s: verdict %d, error %d after %d cycles", what, a.Verdict, a.Why, a.Cycles)
		}
	}
}

// TestP24_3Limits: too many nodes, gates and variables.
func TestP24_3Limits(t *testing.T) {
	n := counting(t, 4, vec(4, 0), 9)
	n.Mems = []net.Mem{{Name: "m", Width: 1, Words: api.MaxNodes}}
	mustBeTooLarge(t, "words", n, 1, 0)
	n = &net.Net{Mems: []net.Mem{{Name: "m", Width: 8, Words: 64}}}
	for range 3000 {
		n.Mems[0].Ports = append(n.Mems[0].Ports, net.Port{On: input(t, n, 1), At: 0, Val: input(t, n, 8)})
	}
	claim(n, 0, word(t, n, 0))
	mustBeTooLarge(t, "ports", n, 3, 0)
	mustBeTooLarge(t, "gates", later(t, product(t, api.MaxWidth), 1), 4, 0)
	n = counting(t, 4, vec(4, 0), 9)
	for range 100 {
		n.Inputs = append(n.Inputs, net.Pin{Width: api.MaxWidth})
	}
	mustBeTooLarge(t, "variables", n, 5, 4)
	mustBeTooLarge(t, "variables", n, 12, 4)
}

// TestP24_3FailsFirst: that there is no room for a cycle is no matter if an assertion
// fails before it, for which a budget is needed.
func TestP24_3FailsFirst(t *testing.T) {
	n := later(t, product(t, 6), 1)
	q := slices.IndexFunc(n.Nodes, func(x net.Node) bool { return x.Kind == net.Reg })
	claim(n, bin(t, n, bv.Eq, q, number(t, n, vec(4, 3))), number(t, n, vec(1, 0)))
	for range 100 {
		n.Inputs = append(n.Inputs, net.Pin{Width: api.MaxWidth})
	}
	enough := bmc.Enough(n, 12)
	a := mustCheck(t, n, 12, enough)
	if a.Verdict != bmc.Fail || a.Cycles != 4 || a.Conflicts == 0 || enough < a.Conflicts {
		t.Errorf("P24.3: verdict %d after %d cycles, %d conflicts; %d is enough", a.Verdict, a.Cycles, a.Conflicts, enough)
	}
	n.Asserts = n.Asserts[:1]
	if a := mustCheck(t, n, 12, 1<<40); a.Verdict != bmc.Unknown || a.Why != api.ErrLimit || a.Cycles != 4 || bmc.Enough(n, 12) != 0 {
		t.Errorf("P24.3: verdict %d, error %d after %d cycles; %d is enough", a.Verdict, a.Why, a.Cycles, bmc.Enough(n, 12))
	}
}

// TestP24_3ManyAsserts: a clause has room for 1000 assertions that differ.
func TestP24_3ManyAsserts(t *testing.T) {
	n := &net.Net{}
	yes := number(t, n, vec(1, 1))
	q := register(t, n, 2, vec(2, 0))
	n.Regs[0].Next = bin(t, n, bv.Add, q, number(t, n, vec(2, 1)))
	on := bin(t, n, bv.Eq, q, number(t, n, vec(2, 2)))
	for i := range 1000 {
		if i%125 == 0 {
			input(t, n, 125)
		}
		bit := add(t, n, net.Node{Kind: net.Slice, Width: 1, Lo: i % 125, Args: []int{len(n.Nodes) - 1 - i%125}})
		claim(n, on, bit)
	}
	for range 5 {
		n.Asserts = append(n.Asserts, n.Asserts...)
	}
	if a := mustCheck(t, n, 5, 100); a.Verdict != bmc.Fail || a.Cycles != 3 {
		t.Errorf("P24.2: verdict %d, error %d after %d cycles", a.Verdict, a.Why, a.Cycles)
	}
	claim(n, on, input(t, n, 1))
	mustBeTooLarge(t, "assertions", n, 5, 2)
	claim(n, yes, q)
	if a := mustCheck(t, n, 5, 100); a.Verdict != bmc.Fail || a.Cycles != 1 || a.Witness.Assert != len(n.Asserts)-1 {
		t.Errorf("P24.2: verdict %d, error %d after %d cycles", a.Verdict, a.Why, a.Cycles)
	}
}

// mustFit fails unless there is room for a netlist.
func mustFit(t *testing.T, n *net.Net, bound int) {
	t.Helper()
	u := cycles(t, n, bound)
	for i := range bound {
		if err := u.Frame(); err != api.OK {
			t.Fatalf("P24.3: %d nodes: cycle %d: error %d\n%s", len(n.Nodes), i, err, showNet(n))
		}
	}
	if a := mustCheck(t, n, bound, 0); a.Why == api.ErrLimit {
		t.Fatalf("P24.3: error %d after %d cycles\n%s", a.Why, a.Cycles, showNet(n))
	}
}

// pairs makes an assertion of every two nodes, and again.
func pairs(n *net.Net) {
	for range 2 {
		for on := range n.Nodes {
			for is := range n.Nodes {
				claim(n, on, is)
			}
		}
	}
}

// fill adds operations until there are so many nodes, all of one width.
func fill(t *testing.T, pick sample.Choice, n *net.Net, count int, ops ...int) {
	t.Helper()
	for len(n.Nodes) < count {
		x, y := pick(len(n.Nodes)), len(n.Nodes)-1-pick(min(3, len(n.Nodes)))
		bin(t, n, ops[pick(len(ops))], x, y)
	}
	for i := range n.Regs {
		n.Regs[i].Next = len(n.Nodes) - 1 - i
	}
}

// TestP24_3Small: there is room for all netlists of at most 6 nodes of at most 5
// bits, and for those of at most 24 nodes of at most 4 bits for 4 cycles.
func TestP24_3Small(t *testing.T) {
	pick := chooser(24, 11)
	for range 15 {
		n := &net.Net{}
		input(t, n, 5)
		register(t, n, 5, bv.Vec{})
		fill(t, pick, n, 6, bv.Sdiv, bv.Srem, bv.Rem, bv.Mul)
		pairs(n)
		mustFit(t, n, api.MaxBound)
		n = &net.Net{}
		input(t, n, 4)
		register(t, n, 4, bv.Vec{})
		register(t, n, 4, bv.Vec{})
		fill(t, pick, n, 24, bv.Sdiv, bv.Srem, bv.Rem, bv.Mul)
		pairs(n)
		mustFit(t, n, 4)
	}
}

// TestP24_3SmallMemories: the same with memories of at most 2 bits, and with as many
// ports as can differ, and again.
func TestP24_3SmallMemories(t *testing.T) {
	pick := chooser(24, 12)
	for i := range 20 {
		n := &net.Net{Mems: [][]net.Mem{{{Width: 1, Words: 2}}, {{Width: 2, Words: 1}}, {{Width: 1, Words: 1}, {Width: 1, Words: 1}}, {{Width: 1, Words: 1}}}[i%4]}
		register(t, n, 4, bv.Vec{})
		input(t, n, 4)
		register(t, n, n.Mems[0].Width, bv.Vec{})
		for len(n.Nodes) < 24 {
			at := pick(len(n.Nodes))
			if pick(2) == 0 {
				at = len(n.Nodes) - 1
			}
			switch mem := pick(len(n.Mems)); pick(3) {
			case 0:
				add(t, n, net.Node{Kind: net.Word, Width: n.Mems[mem].Width, Num: mem, Args: []int{at}})
			case 1:
				add(t, n, net.Node{Kind: net.Pick, Width: 1, Args: []int{at, pick(len(n.Nodes))}})
			default:
				bin(t, n, []int{bv.Sdiv, bv.Srem}[pick(2)], at, at)
			}
		}
		everyPort(pick, n)
		pairs(n)
		mustFit(t, n, 4)
	}
}

// everyPort adds two ports of each memory for every two nodes.
func everyPort(pick sample.Choice, n *net.Net) {
	for i, m := range n.Mems {
		var vals []int
		for k, x := range n.Nodes {
			if x.Width == m.Width {
				vals = append(vals, k)
			}
		}
		for range 2 {
			for on := range n.Nodes {
				for at := range n.Nodes {
					n.Mems[i].Ports = append(n.Mems[i].Ports, net.Port{On: on, At: at, Val: vals[pick(len(vals))]})
				}
			}
		}
	}
}

// TestP24_3Disturbed: Check returns for netlists that may not be valid.
func TestP24_3Disturbed(t *testing.T) {
	pick := chooser(24, 13)
	checked, failed := 0, 0
	for range 1500 {
		n := tiny(t, pick)
		pick.DisturbNet(n)
		want := n.Check()
		a, err := bmc.Check(n, 2, 10)
		bmc.Enough(n, 2)
		switch {
		case want != api.OK && (err != want || !reflect.ValueOf(a).IsZero()):
			t.Fatalf("P24.3: error %d, not %d, %+v\n%s", err, want, a, showNet(n))
		case want != api.OK:
			failed++
		case err == api.OK:
			mustCheck(t, n, 2, 10)
			checked++
		}
		bmc.Replay(n, bmc.Witness{Start: cyc.Zero(n), Ins: [][]bv.Vec{pick.Values(tiny(t, pick)).Ins}})
	}
	if checked < 100 || failed < 500 {
		t.Errorf("P24.3: only %d answers, and %d errors", checked, failed)
	}
}

// TestP24_3Memory: answers do not depend on each other or on anything else.
func TestP24_3Memory(t *testing.T) {
	pick := chooser(24, 14)
	for range 200 {
		n := tiny(t, pick)
		before := showNet(n)
		first, second := mustCheck(t, n, 4, 1000), mustCheck(t, n, 4, 1000)
		text := show(first)
		if show(second) != text {
			t.Fatalf("P24.3: %s is not %s", show(second), text)
		}
		for _, proof := range second.Proofs {
			for _, lits := range proof {
				clear(lits)
			}
			clear(proof)
		}
		clear(second.Witness.Start.Regs)
		for _, words := range second.Witness.Start.Words {
			clear(words)
		}
		for _, ins := range second.Witness.Ins {
			clear(ins)
		}
		if show(first) != text || showNet(n) != before || show(mustCheck(t, n, 4, 1000)) != text {
			t.Fatal("P24.3: memory is shared")
		}
	}
}
