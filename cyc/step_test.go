package cyc_test

import (
	"testing"

	"sluicegate/api"
	"sluicegate/bv"
	"sluicegate/cyc"
	"sluicegate/net"
)

// TestP19_2Registers: what registers receive, and what outputs are before and
// after that.
func TestP19_2Registers(t *testing.T) {
	n := usual(t)
	n.Outs = []net.Out{{Name: "sum", Node: sum}, {Name: "w", Node: w}, {Name: "sum", Node: sum}, {Name: "wide", Node: wide}}
	s, seen := mustStep(t, n, usualState(), vec(4, 2), vec(1, 0))
	if show(s.Regs) != show([]bv.Vec{vec(4, 7), vec(8, 200)}) || show(s.Words) != show(usualState().Words) || len(seen) != 0 {
		t.Errorf("P19.2: %v, %v", s, seen)
	}
	for _, x := range []struct {
		state        cyc.State
		a, sum, word uint64
	}{{usualState(), 2, 7, 3}, {usualState(), 0, 5, 1}, {usualState(), 3, 8, 0}, {usualState(), 15, 4, 0}, {s, 2, 9, 3}, {s, 9, 0, 0}} {
		outs, err := cyc.Outs(n, x.state, vec(4, x.a), vec(1, 1))
		want := []bv.Vec{vec(4, x.sum), vec(4, x.word), vec(4, x.sum), vec(128, 200)}
		if err != api.OK || show(outs) != show(want) {
			t.Errorf("P19.2: %v, not %v, error %d", outs, want, err)
		}
	}
	// Registers that receive each other change places.
	n.Regs = append(n.Regs, net.Register{Name: "p", Width: 4, Next: q})
	p, _ := n.Add(net.Node{Kind: net.Reg, Width: 4, Num: 2})
	n.Regs[0].Next = p
	x := usualState()
	x.Regs = append(x.Regs, vec(4, 9))
	if s, _ := mustStep(t, n, x, vec(4, 0), vec(1, 0)); s.Regs[0] != vec(4, 9) || s.Regs[2] != vec(4, 5) {
		t.Errorf("P19.2: %v", s)
	}
}

// TestP19_2Ports: which words are written, with q = 5 and r = 200.
func TestP19_2Ports(t *testing.T) {
	for _, x := range []struct {
		what        string
		ports       []net.Port
		a, b        uint64
		first, last string
		middle      string
	}{
		{"no port", nil, 1, 1, "0001", "0011", "0010"},
		{"not performed", []net.Port{{On: b, At: a, Val: q}}, 1, 0, "0001", "0011", "0010"},
		{"performed", []net.Port{{On: b, At: a, Val: q}}, 1, 1, "0001", "0011", "0101"},
		{"the first word", []net.Port{{On: b, At: a, Val: q}}, 0, 1, "0101", "0011", "0010"},
		{"the last word", []net.Port{{On: b, At: a, Val: q}}, 2, 1, "0001", "0101", "0010"},
		{"the word after it", []net.Port{{On: b, At: a, Val: q}}, 3, 1, "0001", "0011", "0010"},
		{"far beyond", []net.Port{{On: b, At: wide, Val: q}}, 0, 1, "0001", "0011", "0010"},
		{"a wide condition", []net.Port{{On: wide, At: a, Val: q}}, 0, 0, "0101", "0011", "0010"},
		{"an even condition", []net.Port{{On: a, At: b, Val: q}}, 2, 1, "0001", "0011", "0101"},
		{"a condition of 0", []net.Port{{On: a, At: b, Val: q}}, 0, 1, "0001", "0011", "0010"},
		{"the word itself", []net.Port{{On: r, At: b, Val: w}}, 0, 1, "0001", "0011", "0001"},
		{"two ports", []net.Port{{On: r, At: b, Val: q}, {On: r, At: b, Val: sum}}, 1, 1, "0001", "0011", "0110"},
		{"the other order", []net.Port{{On: r, At: b, Val: sum}, {On: r, At: b, Val: q}}, 1, 1, "0001", "0011", "0101"},
		{"the second port is not performed", []net.Port{{On: r, At: b, Val: q}, {On: b, At: b, Val: sum}}, 1, 0, "0101", "0011", "0010"},
		{"the second port writes beyond", []net.Port{{On: r, At: b, Val: q}, {On: r, At: r, Val: sum}}, 1, 1, "0001", "0011", "0101"},
		{"a value from before the step", []net.Port{{On: r, At: a, Val: sum}, {On: r, At: b, Val: w}}, 0, 1, "0101", "0011", "0001"},
		{"three words", []net.Port{{On: r, At: a, Val: a}, {On: r, At: b, Val: q}, {On: r, At: sum, Val: sum}}, 13, 0, "0101", "0010", "0010"},
	} {
		n := usual(t)
		n.Mems[0].Ports = x.ports
		s, _ := mustStep(t, n, usualState(), vec(4, x.a), vec(1, x.b))
		if words := s.Words[0]; words[0].Text() != x.first || words[1].Text() != x.middle || words[2].Text() != x.last {
			t.Errorf("P19.2: %s: %s, %s, %s", x.what, words[0].Text(), words[1].Text(), words[2].Text())
		}
	}
}

// TestP19_2Asserts: which assertions are checked, and whether they hold.
func TestP19_2Asserts(t *testing.T) {
	n := usual(t)
	n.Asserts = []net.Assert{{Name: "z", On: b, Is: a}, {Name: "p", On: a, Is: b}, {Name: "p", On: wide, Is: wide}, {Name: "a", On: r, Is: w}}
	for _, x := range []struct {
		a, b uint64
		want string
	}{
		{0, 0, "[{Assert:2 Holds:true} {Assert:3 Holds:true}]"},
		{0, 1, "[{Assert:0 Holds:false} {Assert:2 Holds:true} {Assert:3 Holds:true}]"},
		{2, 0, "[{Assert:1 Holds:false} {Assert:2 Holds:true} {Assert:3 Holds:true}]"},
		{8, 1, "[{Assert:0 Holds:true} {Assert:1 Holds:true} {Assert:2 Holds:true} {Assert:3 Holds:false}]"},
	} {
		_, seen := mustStep(t, n, usualState(), vec(4, x.a), vec(1, x.b))
		if show(seen) != x.want {
			t.Errorf("P19.2: %v, not %s", seen, x.want)
		}
	}
	s := usualState()
	s.Regs[1] = vec(8, 0)
	if _, seen := mustStep(t, n, s, vec(4, 0), vec(1, 0)); len(seen) != 0 {
		t.Errorf("P19.2: %v", seen)
	}
}

// TestP19_2AnyNet compares Step and Outs with the model.
func TestP19_2AnyNet(t *testing.T) {
	pick := chooser(19, 5)
	written, checked, failed := 0, 0, 0
	for range 2000 {
		n := pick.Net()
		for range 5 {
			v := pick.Values(n)
			s, seen := mustStep(t, n, stateOf(v), v.Ins...)
			want, checks := stepped(n, v)
			if show(s) != show(want) || show(seen) != show(checks) {
				t.Fatalf("P19.2: %v, %v, not %v, %v\n%s", s, seen, want, checks, showNet(n))
			}
			outs, err := cyc.Outs(n, stateOf(v), v.Ins...)
			nodes := n.Eval(v)
			for i, x := range n.Outs {
				if err != api.OK || len(outs) != len(n.Outs) || outs[i] != nodes[x.Node] {
					t.Fatalf("P19.2: outputs %v, error %d\n%s", outs, err, showNet(n))
				}
			}
			if show(s.Words) != show(v.Words) {
				written++
			}
			for _, x := range seen {
				checked++
				if !x.Holds {
					failed++
				}
			}
		}
	}
	if written < 1000 || checked < 2000 || failed < 500 {
		t.Errorf("P19.2: only %d writes, %d assertions, %d of which fail", written, checked, failed)
	}
}

// TestP19_2Errors: each error, and which one comes first.
func TestP19_2Errors(t *testing.T) {
	for _, x := range []struct {
		what   string
		change func(n *net.Net)
		want   api.Errno
	}{
		{"no kind", func(n *net.Net) { n.Nodes[a].Kind = 12 }, api.ErrInval},
		{"a width", func(n *net.Net) { n.Nodes[a].Width = 3 }, api.ErrWidth},
		{"an argument", func(n *net.Net) { n.Nodes[w].Args[0] = 99 }, api.ErrRange},
		{"no inputs", func(n *net.Net) { n.Inputs = nil }, api.ErrRange},
		{"a width of Next", func(n *net.Net) { n.Regs[0].Next = b }, api.ErrWidth},
		{"no Next", func(n *net.Net) { n.Regs[0].Next = 99 }, api.ErrRange},
		{"a width of Val", func(n *net.Net) { n.Mems[0].Ports = []net.Port{{On: b, At: b, Val: b}} }, api.ErrWidth},
		{"no On", func(n *net.Net) { n.Asserts = []net.Assert{{On: -1}} }, api.ErrRange},
		{"no output", func(n *net.Net) { n.Outs = []net.Out{{Node: 99}} }, api.ErrRange},
	} {
		n := usual(t)
		x.change(n)
		mustFail(t, x.what, n, usualState(), x.want, vec(4, 0), vec(1, 0))
		mustFail(t, x.what+", and no inputs", n, usualState(), x.want)
		mustFail(t, x.what+", and no state", n, cyc.State{}, x.want, vec(4, 0), vec(1, 0))
		mustFail(t, x.what+", and wide inputs", n, usualState(), x.want, vec(5, 0), vec(2, 0))
	}
	n := usual(t)
	for _, ins := range [][]bv.Vec{nil, {vec(4, 0)}, {vec(4, 0), vec(1, 0), vec(1, 0)}, {vec(1, 0)}, {vec(5, 0)}, {{}, {}, {}}} {
		mustFail(t, "a number of inputs", n, usualState(), api.ErrRange, ins...)
	}
	for _, ins := range [][]bv.Vec{{vec(3, 0), vec(1, 0)}, {vec(5, 0), vec(1, 0)}, {vec(4, 0), vec(2, 0)}, {vec(1, 0), vec(4, 0)}, {vec(4, 0), {}}, {{}, {}}} {
		mustFail(t, "a width of an input", n, usualState(), api.ErrWidth, ins...)
		mustFail(t, "a width of an input, and no state", n, cyc.State{}, api.ErrRange, ins...)
	}
}

// TestP19_2Nothing: an empty netlist, and one that could not be made.
func TestP19_2Nothing(t *testing.T) {
	for _, n := range []*net.Net{nil, {}} {
		s, seen := mustStep(t, n, cyc.State{})
		outs, err := cyc.Outs(n, cyc.State{})
		if show(s) != show(cyc.State{}) || len(seen) != 0 || len(outs) != 0 || err != api.OK {
			t.Errorf("P19.2: %v, %v, %v, error %d", s, seen, outs, err)
		}
		mustFail(t, "an input", n, cyc.State{}, api.ErrRange, vec(1, 0))
		mustFail(t, "a register", n, cyc.State{Regs: vecs(1, 0)}, api.ErrRange)
	}
	n := &net.Net{Inputs: []net.Pin{{}}}
	if s, _ := mustStep(t, n, cyc.State{}, bv.Vec{}); show(s) != show(cyc.State{}) {
		t.Errorf("P19.2: %v", s)
	}
}

// TestP19_2Memory: results share no memory with arguments or with each other.
func TestP19_2Memory(t *testing.T) {
	pick := chooser(19, 6)
	for range 500 {
		n := pick.Net()
		v := pick.Values(n)
		s := stateOf(v)
		before := show(v)
		first, seen := mustStep(t, n, s, v.Ins...)
		second, other := mustStep(t, n, s, v.Ins...)
		outs, _ := cyc.Outs(n, s, v.Ins...)
		again, _ := cyc.Outs(n, s, v.Ins...)
		text := show(first) + show(seen) + show(outs)
		spoil(second)
		clear(other)
		clear(again)
		if show(v) != before || show(first)+show(seen)+show(outs) != text {
			t.Fatal("P19.2: memory is shared")
		}
		spoil(s)
		clear(v.Ins)
		if show(first)+show(seen)+show(outs) != text {
			t.Fatal("P19.2: an argument is kept")
		}
	}
}

// TestP19_2Disturbed: all functions return for netlists that may not be valid.
func TestP19_2Disturbed(t *testing.T) {
	pick := chooser(19, 12)
	performed, failed := 0, 0
	for range 5000 {
		n := pick.Net()
		v := pick.Values(n)
		pick.DisturbNet(n)
		s := cyc.Zero(n)
		if pick(2) == 0 {
			s = stateOf(v)
		}
		want := n.Check()
		if want == api.OK && !cyc.Fits(n, s) {
			want = api.ErrRange
		}
		_, _, err := cyc.Step(n, s, v.Ins...)
		_, other := cyc.Outs(n, s, v.Ins...)
		_, list, last := cyc.Run(n, s, v.Ins, v.Ins)
		if err != want || other != want || last != want || cyc.Begins(n, s) && !cyc.Fits(n, s) {
			t.Fatalf("P19.2: errors %d, %d and %d, not %d\n%s", err, other, last, want, showNet(n))
		}
		if want == api.OK {
			performed += len(list)
		} else {
			failed++
		}
	}
	if performed < 2000 || failed < 2000 {
		t.Errorf("P19.2: only %d steps, and %d errors", performed, failed)
	}
}
