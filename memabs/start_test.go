package memabs_test

import (
	"slices"
	"testing"

	"sluicegate/api"
	"sluicegate/bv"
	"sluicegate/cyc"
	"sluicegate/memabs"
	"sluicegate/net"
)

// kept returns a netlist with two registers of 4 bits and two memories.
func kept(t *testing.T) *net.Net {
	t.Helper()
	n := stored(t, 4, 3, 2, 2)
	n.Mems = append(n.Mems, net.Mem{Name: "o", Width: 2, Words: 2, Ports: []net.Port{{On: 0, At: 1, Val: 1}}})
	n.Regs = []net.Register{{Name: "q", Width: 4, Next: 4, First: vec(4, 9)}, {Name: "r", Width: 4, Next: 2}}
	n.Outs = append(n.Outs, net.Out{Name: "o", Node: word(t, n, 1, 1)})
	return n
}

// keptState returns a state of kept.
func keptState() cyc.State {
	return cyc.State{Regs: []bv.Vec{vec(4, 5), vec(4, 6)}, Words: [][]bv.Vec{{vec(4, 1), vec(4, 2), vec(4, 3)}, {vec(2, 2), vec(2, 1)}}}
}

// mustNotStart fails unless Start returns ErrRange and nothing else.
func mustNotStart(t *testing.T, what string, r memabs.Result, n *net.Net, s cyc.State) {
	t.Helper()
	before := showResult(r) + showNet(n) + show(s)
	if o, err := memabs.Start(r, n, s); err != api.ErrRange || show(o) != show(cyc.State{}) {
		t.Errorf("P20.3: %s: error %d, %v", what, err, o)
	}
	if showResult(r)+showNet(n)+show(s) != before {
		t.Errorf("P20.3: %s: an argument has changed", what)
	}
}

func TestP20_3StartAndRead(t *testing.T) {
	n := kept(t)
	s := keptState()
	for cycles := range api.MaxBound + 1 {
		r := mustRemove(t, n, cycles)
		o, err := memabs.Start(r, n, s)
		if err != api.OK || len(o.Words) != 0 || len(o.Regs) != len(r.Net.Regs) {
			t.Fatalf("P20.3: error %d, %v", err, o)
		}
		isSet := map[int]bool{}
		for i, reg := range r.Regs {
			isSet[reg] = true
			if o.Regs[reg] != s.Regs[i] {
				t.Errorf("P20.3: register %d is %v", i, o.Regs[reg])
			}
		}
		for i, list := range r.First {
			for at, reg := range list {
				isSet[reg] = true
				if o.Regs[reg] != s.Words[i][at] {
					t.Errorf("P20.3: word %d of memory %d is %v", at, i, o.Regs[reg])
				}
			}
		}
		for reg, v := range o.Regs {
			if !isSet[reg] && v != vec(r.Net.Regs[reg].Width, 0) {
				t.Errorf("P20.3: register %d of the history is %v", reg, v)
			}
		}
		if regs := memabs.Read(r, n, o); show(regs) != show(s.Regs) || show(s) != show(keptState()) {
			t.Errorf("P20.3: %v", regs)
		}
	}
}

// TestP20_3Unfit: states that are not those of the netlist.
func TestP20_3Unfit(t *testing.T) {
	n := kept(t)
	r := mustRemove(t, n, 2)
	for _, x := range []struct {
		what   string
		change func(s *cyc.State)
	}{
		{"nothing", func(s *cyc.State) { *s = cyc.State{} }},
		{"fewer registers", func(s *cyc.State) { s.Regs = s.Regs[:1] }},
		{"more registers", func(s *cyc.State) { s.Regs = append(s.Regs, vec(4, 0)) }},
		{"a width", func(s *cyc.State) { s.Regs[1] = vec(3, 0) }},
		{"fewer memories", func(s *cyc.State) { s.Words = s.Words[:1] }},
		{"fewer words", func(s *cyc.State) { s.Words[1] = s.Words[1][:1] }},
		{"more words", func(s *cyc.State) { s.Words[0] = append(s.Words[0], vec(4, 0)) }},
		{"a width of a word", func(s *cyc.State) { s.Words[0][2] = vec(5, 0) }},
	} {
		s := keptState()
		x.change(&s)
		mustNotStart(t, x.what, r, n, s)
		mustNotStart(t, x.what+", and no result", memabs.Result{}, n, s)
	}
	o, _ := memabs.Start(r, n, keptState())
	mustNotStart(t, "a state of the result", r, n, o)
}

// TestP20_3OfOthers: results that are not those of the netlist.
func TestP20_3OfOthers(t *testing.T) {
	for _, x := range []struct {
		what   string
		change func(n *net.Net)
	}{
		{"an input", func(n *net.Net) { n.Inputs[0].Name = "i" }},
		{"more inputs", func(n *net.Net) { n.Inputs = append(n.Inputs, net.Pin{Width: 1}) }},
		{"a name of a register", func(n *net.Net) { n.Regs[1].Name = "q" }},
		{"an initial value", func(n *net.Net) { n.Regs[0].First = vec(4, 8) }},
		{"no initial value", func(n *net.Net) { n.Regs[0].First = bv.Vec{} }},
		{"a next value", func(n *net.Net) { n.Regs[0].Next = 2 }},
		{"fewer registers", func(n *net.Net) { n.Regs = n.Regs[:1] }},
		{"more registers", func(n *net.Net) { n.Regs = append(n.Regs, n.Regs[0]) }},
		{"fewer words", func(n *net.Net) { n.Mems[0].Words = 2 }},
		{"a word more in one memory, a word less in the other", func(n *net.Net) { n.Mems[0].Words, n.Mems[1].Words = 2, 3 }},
		{"no port", func(n *net.Net) { n.Mems[0].Ports = nil }},
		{"more ports", func(n *net.Net) { n.Mems[1].Ports = append(n.Mems[1].Ports, net.Port{On: 2, At: 2, Val: 3}) }},
		{"a port", func(n *net.Net) { n.Mems[1].Ports[0].Val = 3 }},
		{"an operation", func(n *net.Net) { n.Nodes[4].Num, n.Nodes[4].Width = 1, 2; n.Regs[0].Next = 2 }},
		{"an argument", func(n *net.Net) { n.Nodes[4].Args[0] = 1 }},
		{"an output", func(n *net.Net) { n.Outs[0].Node = 1 }},
		{"a name of an output", func(n *net.Net) { n.Outs[0].Name = "" }},
		{"more outputs", func(n *net.Net) { n.Outs = append(n.Outs, n.Outs[0]) }},
		{"an assertion", func(n *net.Net) { n.Asserts[0].Is = 3 }},
		{"no assertion", func(n *net.Net) { n.Asserts = nil }},
		{"everything", func(n *net.Net) { *n = net.Net{} }},
	} {
		n, other := kept(t), kept(t)
		x.change(other)
		for _, cycles := range []int{0, 1, 4} {
			r, o := mustRemove(t, n, cycles), mustRemove(t, other, cycles)
			if showResult(r) == showResult(o) && cycles > 0 {
				t.Errorf("P20.2: %s: the same result", x.what)
			} else if showResult(r) != showResult(o) {
				mustNotStart(t, x.what, o, n, keptState())
				mustNotStart(t, x.what, r, other, cyc.Zero(other))
			}
		}
	}
}

// TestP20_3Changed: results in which something is not as Remove returned it.
func TestP20_3Changed(t *testing.T) {
	n := kept(t)
	for _, x := range []struct {
		what   string
		change func(r *memabs.Result)
	}{
		{"nothing", func(r *memabs.Result) { *r = memabs.Result{} }},
		{"no netlist", func(r *memabs.Result) { r.Net = nil }},
		{"an empty netlist", func(r *memabs.Result) { r.Net = &net.Net{} }},
		{"the netlist itself", func(r *memabs.Result) { r.Net = n }},
		{"no registers", func(r *memabs.Result) { r.Regs = nil }},
		{"more registers", func(r *memabs.Result) { r.Regs = append(r.Regs, 2) }},
		{"a register", func(r *memabs.Result) { r.Regs[0] = r.First[0][0] }},
		{"no register", func(r *memabs.Result) { r.Regs[0] = least }},
		{"beyond the registers", func(r *memabs.Result) { r.Regs[1] = len(r.Net.Regs) }},
		{"exchanged registers", func(r *memabs.Result) { r.Regs[0], r.Regs[1] = r.Regs[1], r.Regs[0] }},
		{"no words", func(r *memabs.Result) { r.First = nil }},
		{"fewer words", func(r *memabs.Result) { r.First[1] = r.First[1][:1] }},
		{"a word", func(r *memabs.Result) { r.First[1][0] = -1 }},
		{"exchanged words", func(r *memabs.Result) { r.First[0][0], r.First[0][1] = r.First[0][1], r.First[0][0] }},
		{"the words of another memory", func(r *memabs.Result) { r.First[0], r.First[1] = r.First[1], r.First[0] }},
		{"fewer nodes", func(r *memabs.Result) { r.Net.Nodes = r.Net.Nodes[:len(r.Net.Nodes)-1] }},
		{"a node", func(r *memabs.Result) { r.Net.Nodes[len(r.Net.Nodes)-1] = net.Node{} }},
		{"a node twice", func(r *memabs.Result) { r.Net.Nodes[len(r.Net.Nodes)-1] = r.Net.Nodes[0] }},
		{"fewer registers in it", func(r *memabs.Result) { r.Net.Regs = r.Net.Regs[:len(r.Net.Regs)-1] }},
		{"more registers in it", func(r *memabs.Result) { r.Net.Regs = append(r.Net.Regs, r.Net.Regs...) }},
		{"a memory", func(r *memabs.Result) { r.Net.Mems = slices.Clone(n.Mems) }},
		{"an initial value", func(r *memabs.Result) { r.Net.Regs[r.First[0][0]].First = vec(4, 0) }},
	} {
		for _, cycles := range []int{0, 1, 12} {
			r := mustRemove(t, n, cycles)
			x.change(&r)
			mustNotStart(t, x.what, r, n, keptState())
			memabs.Read(r, n, keptState())
			memabs.Read(r, n, cyc.Zero(r.Net))
		}
	}
	n.Nodes[1].Kind = 12
	mustNotStart(t, "a netlist with an error", mustRemove(t, kept(t), 2), n, keptState())
	n = kept(t)
	r := mustRemove(t, n, 2)
	n.Mems[0].Words = api.MaxNodes + 1
	mustNotStart(t, "a netlist without a result", r, n, cyc.Zero(n))
}

// TestP20_3MoreNodes: nodes may be added to a result.
func TestP20_3MoreNodes(t *testing.T) {
	n := kept(t)
	for cycles := range 4 {
		r := mustRemove(t, n, cycles)
		before, _ := memabs.Start(r, n, keptState())
		number(t, r.Net, vec(77, 7))
		if o, err := memabs.Start(r, n, keptState()); err != api.OK || show(o) != show(before) {
			t.Errorf("P20.3: error %d, %v", err, o)
		}
	}
}

// TestP20_3Nothing: a netlist without registers and memories.
func TestP20_3Nothing(t *testing.T) {
	for _, n := range []*net.Net{nil, {}, {Inputs: []net.Pin{{Name: "a", Width: 4}}}} {
		r := mustRemoveAny(t, n)
		o, err := memabs.Start(r, n, cyc.State{})
		if regs := memabs.Read(r, n, o); err != api.OK || show(o) != show(cyc.State{}) || len(regs) != 0 {
			t.Errorf("P20.3: error %d, %v, %v", err, o, regs)
		}
		mustNotStart(t, "a register", r, n, cyc.State{Regs: []bv.Vec{vec(1, 0)}})
		mustNotStart(t, "no result", memabs.Result{}, n, cyc.State{})
		mustNotStart(t, "another netlist", r, kept(t), keptState())
	}
}

// mustRemoveAny returns a result for a netlist that may be nil.
func mustRemoveAny(t *testing.T, n *net.Net) memabs.Result {
	t.Helper()
	r, err := memabs.Remove(n, 3)
	if err != api.OK {
		t.Fatalf("P20.1: error %d", err)
	}
	return r
}

// TestP20_3Read: for states that do not fit there are no registers.
func TestP20_3Read(t *testing.T) {
	n := kept(t)
	r := mustRemove(t, n, 2)
	o, _ := memabs.Start(r, n, keptState())
	for reg, x := range r.Net.Regs {
		s := o.Clone()
		s.Regs[reg] = vec(x.Width+1, 0)
		if list := memabs.Read(r, n, s); len(list) != 0 {
			t.Errorf("P20.3: %v", list)
		}
	}
	more, words := o.Clone(), o.Clone()
	more.Regs = append(more.Regs, vec(1, 0))
	words.Words = [][]bv.Vec{nil}
	for _, s := range []cyc.State{{}, keptState(), {Regs: o.Regs[:len(o.Regs)-1]}, more, words} {
		if list := memabs.Read(r, n, s); len(list) != 0 {
			t.Errorf("P20.3: %v", list)
		}
	}
	list := memabs.Read(r, n, o)
	clear(list)
	if show(memabs.Read(r, n, o)) != show(keptState().Regs) {
		t.Error("P20.3: memory is shared")
	}
	for _, x := range []struct {
		r memabs.Result
		n *net.Net
		s cyc.State
	}{{r, &net.Net{}, o}, {r, nil, o}, {memabs.Result{}, n, o}, {memabs.Result{}, n, cyc.State{}}, {mustRemoveAny(t, nil), n, cyc.State{}}, {memabs.Result{Net: r.Net, Regs: []int{-1, 0}}, n, o}, {memabs.Result{Net: r.Net, Regs: []int{0, most}}, n, o}, {memabs.Result{Net: r.Net, Regs: r.First[1]}, n, o}} {
		if list := memabs.Read(x.r, x.n, x.s); len(list) != 0 {
			t.Errorf("P20.3: %v", list)
		}
	}
}

// TestP20_3Any: Start and Read return for results, netlists and states that have
// nothing to do with each other.
func TestP20_3Any(t *testing.T) {
	pick := chooser(20, 13)
	started := 0
	for range 3000 {
		n, other := pick.Net(), pick.Net()
		if pick(3) == 0 {
			other = n
		}
		r := mustRemove(t, other, pick(api.MaxBound+1))
		s := stateOf(pick.Values(n))
		o, err := memabs.Start(r, n, s)
		if err != api.OK && (err != api.ErrRange || other == n || show(o) != show(cyc.State{})) {
			t.Fatalf("P20.3: error %d, %v", err, o)
		}
		if err == api.OK {
			started++
			if show(memabs.Read(r, n, o)) != show(s.Regs) {
				t.Fatalf("P20.3: %v", o)
			}
		}
		memabs.Read(r, n, s)
	}
	if started < 900 || started > 1300 {
		t.Errorf("P20.3: %d states", started)
	}
}
