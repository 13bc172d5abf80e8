package memabs_test

import (
	"reflect"
	"slices"
	"testing"

	"sluicegate/api"
	"sluicegate/bv"
	"sluicegate/cyc"
	"sluicegate/memabs"
	"sluicegate/net"
)

func TestP20_1AnyNet(t *testing.T) {
	pick := chooser(20, 1)
	words, history := 0, 0
	for range 1500 {
		n := pick.Net()
		r := mustRemove(t, n, pick(api.MaxBound+1))
		for _, list := range r.First {
			words += len(list)
			history -= len(list)
		}
		history += len(r.Net.Regs) - len(r.Regs)
	}
	if words < 1000 || history < 1000 {
		t.Errorf("P20.1: only %d words, and %d registers for the history", words, history)
	}
}

// TestP20_1Never: a register for an initial word receives its own value.
func TestP20_1Never(t *testing.T) {
	n := stored(t, 4, 3, 2, 2)
	r := mustRemove(t, n, 3)
	for _, reg := range r.First[0] {
		if x := r.Net.Nodes[r.Net.Regs[reg].Next]; x.Kind != net.Reg || x.Num != reg {
			t.Errorf("P20.1: register %d receives %+v", reg, x)
		}
	}
}

// TestP20_1WithoutMemories: a netlist without memories remains as it is.
func TestP20_1WithoutMemories(t *testing.T) {
	for _, n := range []*net.Net{nil, {}} {
		r, err := memabs.Remove(n, 3)
		if err != api.OK || r.Net == nil || showResult(r) != showNet(&net.Net{})+"[][]" {
			t.Errorf("P20.1: error %d, %s", err, showResult(r))
		}
	}
	pick := chooser(20, 2)
	found := 0
	for range 500 {
		n := pick.Net()
		if len(n.Mems) > 0 {
			continue
		}
		found++
		r := mustRemove(t, n, pick(api.MaxBound+1))
		if showNet(r.Net) != showNet(n) || len(r.First) != 0 {
			t.Fatalf("P20.1: %s\n%s", showNet(r.Net), showNet(n))
		}
	}
	if found < 100 {
		t.Errorf("P20.1: only %d netlists without memories", found)
	}
}

// TestP20_1Cycles: which numbers of cycles there are.
func TestP20_1Cycles(t *testing.T) {
	n := stored(t, 4, 3, 2, 2)
	none := showResult(mustRemove(t, n, 0))
	for _, cycles := range []int{least, -12, -1} {
		if r := mustRemove(t, n, cycles); showResult(r) != none {
			t.Errorf("P20.1: %d cycles: %s, not %s", cycles, showResult(r), none)
		}
	}
	for cycles := range api.MaxBound + 1 {
		mustRemove(t, n, cycles)
	}
	for _, cycles := range []int{13, 14, 1000, most} {
		mustReject(t, "cycles", n, cycles, api.ErrRange)
	}
}

// mustReject fails unless Remove returns an error and nothing else.
func mustReject(t *testing.T, what string, n *net.Net, cycles int, want api.Errno) {
	t.Helper()
	if r, err := memabs.Remove(n, cycles); err != want || showResult(r) != showResult(memabs.Result{}) {
		t.Errorf("P20.1: %s: error %d, not %d, %d cycles, %s", what, err, want, cycles, showResult(r))
	}
}

// TestP20_1Errors: those of Check. Of several errors, the one with the least
// number is returned.
func TestP20_1Errors(t *testing.T) {
	for _, x := range []struct {
		what   string
		change func(n *net.Net)
		want   api.Errno
	}{
		{"no kind", func(n *net.Net) { n.Nodes[1].Kind = 12 }, api.ErrInval},
		{"a width", func(n *net.Net) { n.Nodes[1].Width = 3 }, api.ErrWidth},
		{"an argument", func(n *net.Net) { n.Nodes[4].Args[0] = 99 }, api.ErrRange},
		{"a memory", func(n *net.Net) { n.Nodes[4].Num = 1 }, api.ErrRange},
		{"a width of Val", func(n *net.Net) { n.Mems[0].Ports[0].Val = 0 }, api.ErrWidth},
		{"no At", func(n *net.Net) { n.Mems[0].Ports[0].At = -1 }, api.ErrRange},
		{"no output", func(n *net.Net) { n.Outs[0].Node = 5 }, api.ErrRange},
		{"no Is", func(n *net.Net) { n.Asserts[0].Is = most }, api.ErrRange},
	} {
		n := stored(t, 4, 3, 2, 2)
		x.change(n)
		for _, cycles := range []int{-1, 0, 1, 12, 13, most} {
			mustReject(t, x.what, n, cycles, x.want)
			n.Mems[0].Words = api.MaxNodes + 1
		}
	}
	n := stored(t, 4, api.MaxNodes+1, 2, 2)
	mustReject(t, "too many words", n, 12, api.ErrLimit)
	mustReject(t, "too many words and cycles", n, 13, api.ErrRange)
}

// TestP20_1Words: one node at least is needed for each initial word.
func TestP20_1Words(t *testing.T) {
	n := &net.Net{Mems: []net.Mem{{Name: "m", Width: 4, Words: api.MaxNodes}}}
	r := mustRemove(t, n, 12)
	if len(r.Net.Nodes) != api.MaxNodes || len(r.First[0]) != api.MaxNodes {
		t.Errorf("P20.1: %d nodes", len(r.Net.Nodes))
	}
	for _, words := range []int{api.MaxNodes + 1, 1 << 40, most} {
		n.Mems[0].Words = words
		mustReject(t, "words", n, 0, api.ErrLimit)
	}
	n.Mems[0].Words = 12000
	mustRemove(t, n, 12)
	n.Mems = append(n.Mems, n.Mems[0])
	mustReject(t, "words of two memories", n, 0, api.ErrLimit)
	for _, words := range []int{least, -1, 0} {
		n := stored(t, 4, words, 2, 2)
		if r := mustRemove(t, n, 12); len(r.First[0]) != 0 || len(r.Net.Regs) != 0 {
			t.Errorf("P20.1: %s", showResult(r))
		}
	}
}

// TestP20_1Limit: exactly as many nodes as are permitted, and one more.
func TestP20_1Limit(t *testing.T) {
	for _, x := range []struct {
		what   string
		n      *net.Net
		cycles int
	}{
		{"no memories", &net.Net{}, 12}, {"no cycles", stored(t, 4, 5, 3, 3), 0}, {"few cycles", stored(t, 4, 5, 7, 2), 2}, {"many cycles", stored(t, 4, 64, 6, 6), 12},
	} {
		base := len(mustRemove(t, x.n, x.cycles).Net.Nodes)
		for i := range api.MaxNodes - base {
			number(t, x.n, vec(100, uint64(i+1)))
		}
		if r := mustRemove(t, x.n, x.cycles); len(r.Net.Nodes) != api.MaxNodes {
			t.Errorf("P20.1: %s: %d nodes", x.what, len(r.Net.Nodes))
		}
		x.n.Nodes = append(x.n.Nodes, net.Node{Kind: net.Const, Width: 101, Val: vec(101, 7)})
		mustReject(t, x.what, x.n, x.cycles, api.ErrLimit)
		mustReject(t, x.what, x.n, 13, api.ErrRange)
	}
}

// TestP20_1ManyPorts: more writes and reads than there is room for.
func TestP20_1ManyPorts(t *testing.T) {
	for _, words := range []int{1, 2, 3, 64} {
		n := stored(t, 4, words, 2, 2)
		p := n.Mems[0].Ports[0]
		for range 8000 {
			n.Mems[0].Ports = append(n.Mems[0].Ports, net.Port{On: input(t, n, 1), At: p.At, Val: p.Val})
		}
		mustReject(t, "ports", n, 1, api.ErrLimit)
		mustReject(t, "ports", n, 12, api.ErrLimit)
		mustRemove(t, n, 0)
	}
	n := stored(t, 4, 4, 2, 2)
	for i := range 18000 {
		word(t, n, 0, number(t, n, vec(100, uint64(i/2))))
	}
	mustReject(t, "reads", n, 12, api.ErrLimit)
}

// TestP20_1Overwritten: a port needs nothing if a later one overwrites whatever it
// writes.
func TestP20_1Overwritten(t *testing.T) {
	for _, words := range []int{1, 2, 3, 64} {
		n := stored(t, 4, words, 2, 2)
		p := n.Mems[0].Ports[0]
		other := net.Port{On: p.On, At: p.At, Val: number(t, n, vec(4, 11))}
		want := showResult(mustRemove(t, n, 5))
		n.Mems[0].Ports = slices.Repeat([]net.Port{other, p, p}, 10000)
		if r := mustRemove(t, n, 5); showResult(r) != want {
			t.Errorf("P20.1: %d nodes, %d registers", len(r.Net.Nodes), len(r.Net.Regs))
		}
		n.Mems[0].Ports = []net.Port{p, {On: p.At, At: p.At, Val: p.Val}, other, {On: p.On, At: p.On, Val: other.Val}, p, {On: p.At, At: p.On, Val: p.Val}, other}
		r := mustRemove(t, n, 5)
		pick := chooser(20, 16)
		for range 50 {
			mustAgree(t, n, r, stateOf(pick.Values(n)), inputs(pick, n, 5)...)
		}
	}
}

// TestP20_1Registers: a memory of few words that is often read or written has
// registers for its words instead of a history.
func TestP20_1Registers(t *testing.T) {
	for _, x := range []struct{ words, ports, reads, want int }{
		{1, 1, 1, 1}, {2, 1, 1, 2}, {3, 1, 1, 7 * 3}, {3, 1, 2, 3}, {4, 2, 2, 4}, {9, 4, 4, 9}, {10, 4, 4, 7 * 6},
	} {
		n := stored(t, 4, x.words, 4, 4)
		p := n.Mems[0].Ports[0]
		for range x.ports - 1 {
			n.Mems[0].Ports = append(n.Mems[0].Ports, net.Port{On: input(t, n, 1), At: p.At, Val: p.Val})
		}
		for range x.reads - 1 {
			out(n, word(t, n, 0, input(t, n, 4)))
		}
		if got := len(mustRemove(t, n, 0).Net.Regs); got != x.words {
			t.Errorf("P20.1: %v: %d registers without a cycle", x, got)
		}
		if x.want == x.words {
			x.want++
		}
		if got := len(mustRemove(t, n, 7).Net.Regs) - x.words; got != x.want {
			t.Errorf("P20.1: %v: %d registers", x, got)
		}
	}
}

// TestP20_1OddWidth: a memory whose words no vectors have leads to the error of
// Add.
func TestP20_1OddWidth(t *testing.T) {
	for _, width := range []int{least, -1, 0, 129, most} {
		n := &net.Net{Mems: []net.Mem{{Width: width, Words: 2}}}
		mustReject(t, "a width", n, 1, api.ErrWidth)
		n.Mems[0].Words = 0
		mustRemove(t, n, 1)
	}
}

// TestP20_1Names: many registers, outputs and assertions with one name, or none.
func TestP20_1Names(t *testing.T) {
	n := stored(t, 4, 3, 2, 2)
	n.Regs = []net.Register{{Width: 4, Next: 2}, {Width: 4, Next: 4, First: vec(4, 6)}, {Name: "m", Width: 2, Next: 3}}
	n.Outs = []net.Out{{Name: "m[0]", Node: 1}, {Name: "m[0]", Node: 2}, {Node: 4}}
	n.Asserts = []net.Assert{{On: 1, Is: 2}, {On: 4, Is: 4}, {Name: "p", On: 2, Is: 1}}
	n.Mems[0].Name = ""
	n.Mems = append(n.Mems, n.Mems[0], net.Mem{Name: "m", Width: 1, Words: 1})
	r := mustRemove(t, n, 4)
	pick := chooser(20, 3)
	for range 200 {
		mustAgree(t, n, r, stateOf(pick.Values(n)), inputs(pick, n, 4)...)
	}
}

// TestP20_1Memory: results do not depend on each other, on the netlist, or on
// anything else, and nodes can be added to them.
func TestP20_1Memory(t *testing.T) {
	for seed := range uint64(300) {
		pick := chooser(20, 100+seed)
		n := pick.Net()
		cycles := pick(api.MaxBound + 1)
		before := showNet(n)
		first, second := mustRemove(t, n, cycles), mustRemove(t, n, cycles)
		text := showResult(first)
		if showResult(second) != text || !reflect.DeepEqual(first, second) {
			t.Fatal("P20.1: two results for the same netlist")
		}
		spoil(second)
		if showNet(n) != before || showResult(first) != text {
			t.Fatal("P20.1: memory is shared")
		}
		spoil(memabs.Result{Net: n})
		if showResult(first) != text {
			t.Fatal("P20.1: the netlist is kept")
		}
		count := len(first.Net.Nodes)
		for i, x := range first.Net.Nodes {
			if j, err := first.Net.Add(x); i != j || err != api.OK || len(first.Net.Nodes) != count {
				t.Fatalf("P17.1: node %d is %d, error %d", i, j, err)
			}
		}
	}
}

// spoil changes everything in a result.
func spoil(r memabs.Result) {
	for _, x := range r.Net.Nodes {
		clear(x.Args)
	}
	for _, m := range r.Net.Mems {
		clear(m.Ports)
	}
	for _, list := range append(r.First, r.Regs) {
		clear(list)
	}
	clear(r.Net.Nodes)
	clear(r.Net.Inputs)
	clear(r.Net.Regs)
	clear(r.Net.Mems)
	clear(r.Net.Outs)
	clear(r.Net.Asserts)
}

// TestP20_1Sharing: what several ports have in common is kept only once, and
// constants not at all.
func TestP20_1Sharing(t *testing.T) {
	n := stored(t, 8, 16, 4, 4)
	p := n.Mems[0].Ports[0]
	count := func() int { return len(mustRemove(t, n, 5).Net.Regs) - 16 }
	if got := count(); got != 3*5 {
		t.Errorf("P20.1: %d registers for one port", got)
	}
	five := number(t, n, vec(32, 5))
	zero := number(t, n, vec(8, 0))
	for _, x := range []struct {
		port net.Port
		want int
	}{
		{p, 3}, {net.Port{On: p.On, At: p.At, Val: zero}, 2}, {net.Port{On: p.On, At: five, Val: p.Val}, 3},
		{net.Port{On: p.On, At: five, Val: zero}, 2}, {net.Port{On: five, At: five, Val: zero}, 3}, {net.Port{On: five, At: p.At, Val: p.Val}, 4},
	} {
		n.Mems[0].Ports = append(n.Mems[0].Ports, x.port)
		if got := count(); got != x.want*5 {
			t.Errorf("P20.1: %d registers for %v", got, n.Mems[0].Ports)
		}
	}
	pick := chooser(20, 4)
	r := mustRemove(t, n, 5)
	for range 200 {
		mustAgree(t, n, r, stateOf(pick.Values(n)), inputs(pick, n, 5)...)
	}
}

// TestP20_1Cleared: a memory that is cleared in a loop needs few nodes.
func TestP20_1Cleared(t *testing.T) {
	n := stored(t, 8, api.MaxWords, 6, 6)
	rst, zero := input(t, n, 1), number(t, n, vec(8, 0))
	var ports []net.Port
	for at := range api.MaxWords {
		ports = append(ports, net.Port{On: rst, At: number(t, n, vec(32, uint64(at))), Val: zero})
	}
	n.Mems[0].Ports = append(n.Mems[0].Ports, ports...)
	r := mustRemove(t, n, api.MaxBound)
	if len(r.Net.Nodes) > 600 || len(r.Net.Regs) != api.MaxWords+4*api.MaxBound {
		t.Errorf("P20.1: %d nodes, %d registers", len(r.Net.Nodes), len(r.Net.Regs))
	}
	pick := chooser(20, 14)
	for range 50 {
		mustAgree(t, n, r, stateOf(pick.Values(n)), inputs(pick, n, api.MaxBound)...)
	}
}

// TestP20_1Const: a Const that is written may come after the word that is read.
func TestP20_1Const(t *testing.T) {
	n := stored(t, 4, 4, 2, 2)
	at, val := number(t, n, vec(2, 3)), number(t, n, vec(4, 9))
	n.Mems[0].Ports[0].At, n.Mems[0].Ports[0].Val = at, val
	r := mustRemove(t, n, 2)
	s := mustAgree(t, n, r, stateOf(chooser(20, 5).Values(n)), []bv.Vec{vec(2, 2), vec(2, 0), vec(4, 0), vec(2, 3)}, []bv.Vec{vec(2, 0), vec(2, 0), vec(4, 0), vec(2, 3)})
	if s.Words[0][3] != vec(4, 9) {
		t.Errorf("P19.2: %v", s)
	}
}

// TestP20_1Disturbed: all functions return for netlists that may not be valid.
func TestP20_1Disturbed(t *testing.T) {
	pick := chooser(20, 15)
	removed, failed := 0, 0
	for range 4000 {
		n := busy(t, pick)
		cycles := pick(4)
		ins := inputs(pick, n, cycles)
		pick.DisturbNet(n)
		want := n.Check()
		r, err := memabs.Remove(n, cycles)
		switch {
		case want != api.OK && err != want:
			t.Fatalf("P20.1: error %d, not %d\n%s", err, want, showNet(n))
		case err == api.OK:
			removed++
			mustAgree(t, n, mustRemove(t, n, cycles), cyc.Zero(n), ins...)
		case showResult(r) != showResult(memabs.Result{}) || want == api.OK && err != api.ErrLimit && err != api.ErrWidth:
			t.Fatalf("P20.1: error %d, %s\n%s", err, showResult(r), showNet(n))
		default:
			failed++
			mustNotStart(t, "no result", r, n, cyc.Zero(n))
		}
	}
	if removed < 500 || failed < 1000 {
		t.Errorf("P20.1: only %d results, and %d errors", removed, failed)
	}
}
