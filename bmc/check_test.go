package bmc_test

import (
	"testing"

	"sluicegate/api"
	"sluicegate/bmc"
	"sluicegate/bv"
	"sluicegate/cyc"
	"sluicegate/net"
	"sluicegate/sample"
)

// tiny returns a netlist with few bits. Either it may fail at once, or it has initial
// values, and its assertions are about registers.
func tiny(t *testing.T, pick sample.Choice) *net.Net {
	t.Helper()
	n := &net.Net{}
	isLate := pick(2) == 0
	list := []int{number(t, n, vec(1, 1)), number(t, n, vec(2, uint64(pick(4))))}
	for range 1 + pick(2) {
		list = append(list, input(t, n, 1+pick(2)))
	}
	regs := len(list)
	for range 1 + pick(3) {
		width := 1 + pick(2)
		first := vec(width, uint64(pick(4)))
		if !isLate && pick(2) == 0 {
			first = bv.Vec{}
		}
		list = append(list, register(t, n, width, first))
	}
	any := func() int { return list[pick(len(list))] }
	wide := func(width int) int { return fitted(t, n, any(), width) }
	if pick(2) == 0 {
		n.Mems = []net.Mem{{Name: "m", Width: 1, Words: 1 + pick(3)}}
		list = append(list, word(t, n, any()), word(t, n, any()))
	}
	for range 3 + pick(6) {
		width := 1 + pick(2)
		list = append(list, bin(t, n, pick(bv.Sle+1), wide(width), wide(width)))
	}
	for i, x := range n.Regs {
		n.Regs[i].Next = wide(x.Width)
	}
	for i := range n.Mems {
		for range pick(4) {
			n.Mems[i].Ports = append(n.Mems[i].Ports, net.Port{On: any(), At: any(), Val: wide(1)})
		}
	}
	for range pick(4) {
		if isLate {
			q := list[regs+pick(len(n.Regs))]
			claim(n, any(), bin(t, n, bv.Ne, fitted(t, n, q, 2), number(t, n, vec(2, uint64(pick(4))))))
		} else {
			claim(n, bin(t, n, pick(bv.Sle+1), wide(2), wide(2)), bin(t, n, bv.Ne, wide(2), wide(2)))
		}
	}
	return n
}

// fitted returns the node of a node with a width.
func fitted(t *testing.T, n *net.Net, i, width int) int {
	t.Helper()
	if n.Nodes[i].Width == width {
		return i
	}
	return add(t, n, net.Node{Kind: net.Ext, Width: width, Args: []int{i}})
}

// values returns all vectors of these widths, one list for each combination.
func values(widths ...int) [][]bv.Vec {
	lists := [][]bv.Vec{nil}
	for _, width := range widths {
		var longer [][]bv.Vec
		for _, list := range lists {
			for x := range uint64(1) << width {
				longer = append(longer, append(list[:len(list):len(list)], vec(width, x)))
			}
		}
		lists = longer
	}
	return lists
}

// starts returns all states with which a netlist with at most one memory begins.
func starts(n *net.Net) []cyc.State {
	var widths []int
	for _, x := range n.Regs {
		widths = append(widths, x.Width)
	}
	for _, m := range n.Mems {
		for range m.Words {
			widths = append(widths, m.Width)
		}
	}
	var list []cyc.State
	for _, v := range values(widths...) {
		s := cyc.State{Regs: v[:len(n.Regs)]}
		if len(n.Mems) > 0 {
			s.Words = [][]bv.Vec{v[len(n.Regs):]}
		}
		if cyc.Begins(n, s) {
			list = append(list, s)
		}
	}
	return list
}

// firstFailure returns the number of cycles up to the first one in which an assertion
// fails in any run, or 0 if there is none within the bound.
func firstFailure(t *testing.T, n *net.Net, bound int) int {
	t.Helper()
	var widths []int
	for _, x := range n.Inputs {
		widths = append(widths, x.Width)
	}
	ins, states := values(widths...), starts(n)
	for i := range bound {
		seenStates := map[string]bool{}
		var next []cyc.State
		for _, s := range states {
			for _, list := range ins {
				after, seen, err := cyc.Step(n, s, list...)
				if err != api.OK {
					t.Fatalf("P19.2: error %d", err)
				}
				for _, x := range seen {
					if !x.Holds {
						return i + 1
					}
				}
				if text := show(after); !seenStates[text] {
					seenStates[text] = true
					next = append(next, after)
				}
			}
		}
		states = next
	}
	return 0
}

// mustDecide fails unless the answer for a netlist is that of all runs.
func mustDecide(t *testing.T, n *net.Net, bound, first int) bmc.Answer {
	t.Helper()
	a := mustCheck(t, n, bound, bmc.Enough(n, bound))
	switch {
	case first == 0 && a.Verdict != bmc.Safe:
		t.Fatalf("P24.1: verdict %d after %d cycles, bound %d; it is safe\n%s", a.Verdict, a.Cycles, bound, showNet(n))
	case first > 0 && (a.Verdict != bmc.Fail || a.Cycles != first):
		t.Fatalf("P24.2: verdict %d after %d cycles, bound %d; it fails after %d\n%s", a.Verdict, a.Cycles, bound, first, showNet(n))
	}
	return a
}

// TestP24_1AllRuns: the answer is that of all runs, with memories and without, for
// every bound.
func TestP24_1AllRuns(t *testing.T) {
	pick := chooser(24, 1)
	count := map[int]int{}
	for range 1500 {
		n := tiny(t, pick)
		bound := 1 + pick(6)
		first := firstFailure(t, n, bound)
		count[first]++
		mustDecide(t, n, bound, first)
		if first > 1 {
			mustDecide(t, n, first, first)
			mustDecide(t, n, first-1, 0)
			mustDecide(t, n, api.MaxBound, first)
		}
	}
	if count[0] < 300 || count[1] < 300 || count[2] < 50 || count[3] < 5 {
		t.Errorf("P24.1: first failures %v", count)
	}
}

// TestP24_2Example: the example of the chapter.
func TestP24_2Example(t *testing.T) {
	n := counting(t, 4, bv.Vec{}, 9)
	a := mustCheck(t, n, 3, 1000)
	if a.Verdict != bmc.Fail || a.Cycles != 1 || show(a.Witness.Start.Regs) != show([]bv.Vec{vec(4, 9)}) || a.Witness.Assert != 0 {
		t.Errorf("P24.2: %+v", a)
	}
	n = counting(t, 4, vec(4, 0), 9)
	for bound := 1; bound <= api.MaxBound; bound++ {
		a := mustCheck(t, n, bound, 1000)
		if bound < 10 && (a.Verdict != bmc.Safe || a.Cycles != bound) || bound >= 10 && (a.Verdict != bmc.Fail || a.Cycles != 10) {
			t.Errorf("P24.2: bound %d: %+v", bound, a)
		}
	}
}

// TestP24_1Sources: sources whose answers are known. With enough budget, they are
// found; with less, none is found that is another one.
func TestP24_1Sources(t *testing.T) {
	for _, x := range []struct {
		text                   string
		bound, verdict, cycles int
	}{
		{"module top (input clk, output reg [1:0] q); always @(posedge clk) begin q <= q + 1; p: assert (q != 3); end endmodule", 2, bmc.Fail, 1},
		{"module top (input clk, output reg [1:0] q = 0); always @(posedge clk) begin q <= q + 1; p: assert (q != 3); end endmodule", 3, bmc.Safe, 3},
		{"module top (input clk, output reg [1:0] q = 0); always @(posedge clk) begin q <= q + 1; p: assert (q != 3); end endmodule", 4, bmc.Fail, 4},
		{"module top (input clk, input a, output y); reg s = 0; assign y = s ^ a; always @(posedge clk) begin s <= y; if (a) even: assert (!s); end endmodule", 3, bmc.Fail, 2},
		{"module top (input clk, input [1:0] a); reg [3:0] m [0:3]; reg [1:0] k = 0; always @(posedge clk) begin m[a] <= 5; k <= k + 1; if (k == 1) p: assert (m[0] == 5); end endmodule", 3, bmc.Fail, 2},
		{"module top (input clk, input [3:0] a, input [3:0] b); always @(posedge clk) p: assert ((a & b) == (b & a)); endmodule", 1, bmc.Safe, 1},
		{"module top (input clk, input [1:0] a, input [3:0] d); reg [3:0] m [0:3]; reg v = 0; reg [1:0] b; reg [3:0] e; always @(posedge clk) begin m[a] <= d; b <= a; e <= d; v <= 1; if (v) p: assert (m[b] == e); end endmodule", 12, bmc.Safe, 12},
		{"module top (input clk, input push, input pop); reg [2:0] n = 0; always @(posedge clk) begin if (push && n != 5) n <= n + 1; else if (pop && n != 0) n <= n - 1; low: assert (n != 5); end endmodule", 12, bmc.Fail, 6},
		{"module top (input clk, input [7:0] a, input [7:0] b); reg [7:0] s; reg [7:0] t; reg v = 0; always @(posedge clk) begin s <= a + b; t <= b - ~a - 1; v <= 1; if (v) p: assert (s == t); end endmodule", 5, bmc.Safe, 5},
		{"module top (input clk, input a); reg [3:0] s = 1; always @(posedge clk) begin s <= {s[2:0], s[3]}; one: assert (s == 1 || s == 2 || s == 4 || s == 8); if (a) never: assert (s != 0); end endmodule", 12, bmc.Safe, 12},
	} {
		n := source(t, x.text)
		a := mustCheck(t, n, x.bound, bmc.Enough(n, x.bound))
		if a.Verdict != x.verdict || a.Cycles != x.cycles {
			t.Errorf("P24.1: verdict %d after %d cycles, not %d after %d: %s", a.Verdict, a.Cycles, x.verdict, x.cycles, x.text)
		}
		for _, budget := range []int{0, 1, 5, 50} {
			b := mustCheck(t, n, x.bound, budget)
			if b.Verdict != bmc.Unknown && (b.Verdict != a.Verdict || b.Cycles != a.Cycles) || b.Verdict == bmc.Unknown && b.Why != api.ErrBudget {
				t.Errorf("P24.3: verdict %d after %d cycles, error %d, budget %d: %s", b.Verdict, b.Cycles, b.Why, budget, x.text)
			}
		}
	}
}

// TestP24_2Words: the initial words are those with which the run fails.
func TestP24_2Words(t *testing.T) {
	n := &net.Net{Mems: []net.Mem{{Name: "m", Width: 5, Words: 3}}}
	q := register(t, n, 2, vec(2, 0))
	n.Regs[0].Next = bin(t, n, bv.Add, q, number(t, n, vec(2, 1)))
	n.Mems = append(n.Mems, net.Mem{Name: "empty", Width: 2}, net.Mem{Name: "o", Width: 2, Words: 2})
	w := word(t, n, q)
	claim(n, bin(t, n, bv.Eq, q, number(t, n, vec(2, 2))), bin(t, n, bv.Ne, w, number(t, n, vec(5, 19))))
	a := mustCheck(t, n, 7, 1000)
	if a.Verdict != bmc.Fail || a.Cycles != 3 || len(a.Witness.Start.Words) != 3 || a.Witness.Start.Words[0][2] != vec(5, 19) || a.Witness.Start.Regs[0] != vec(2, 0) {
		t.Errorf("P24.2: %+v", a)
	}
	if words := a.Witness.Start.Words; len(words[1]) != 0 || len(words[2]) != 2 || words[2][0].Width() != 2 {
		t.Errorf("P24.2: %+v", a)
	}
}

// TestP24_2Assert: the number of the assertion is that of one which fails in the last
// cycle.
func TestP24_2Assert(t *testing.T) {
	n := counting(t, 4, vec(4, 0), 3)
	yes := n.Asserts[0].On
	n.Asserts = nil
	q := 0
	for _, end := range []uint64{9, 2, 1, 2, 14} {
		claim(n, yes, bin(t, n, bv.Ne, q, number(t, n, vec(4, end))))
	}
	for _, want := range [][]int{{2}, {1, 3}, {0}} {
		a := mustCheck(t, n, 12, 1000)
		at := a.Witness.Assert
		if at != want[0] && at != want[len(want)-1] {
			t.Errorf("P24.2: assertion %d, not one of %v", at, want)
		}
		for _, i := range want {
			n.Asserts[i].Is = yes
		}
	}
	if a := mustCheck(t, n, 12, 1000); a.Verdict != bmc.Safe {
		t.Errorf("P24.1: %+v", a)
	}
}

// TestP24_1Nothing: without assertions, or with those that are never checked, a
// netlist is safe, whatever the budget is.
func TestP24_1Nothing(t *testing.T) {
	n := counting(t, 4, bv.Vec{}, 9)
	n.Asserts[0].On = number(t, n, vec(7, 0))
	held := counting(t, 4, bv.Vec{}, 9)
	held.Asserts[0].Is = number(t, held, vec(9, 64))
	none := counting(t, 4, bv.Vec{}, 9)
	none.Asserts = nil
	for _, n := range []*net.Net{n, held, none, {}, nil} {
		for _, bound := range []int{1, 4, 12} {
			for _, budget := range []int{least, -1, 0, 1, most} {
				a := mustCheck(t, n, bound, budget)
				if a.Verdict != bmc.Safe || a.Conflicts != 0 {
					t.Errorf("P24.1: %+v", a)
				}
			}
		}
	}
}

// TestP24_1Pins: inputs without a node, of which one has no bits.
func TestP24_1Pins(t *testing.T) {
	n := &net.Net{Inputs: []net.Pin{{Name: "a", Width: 128}, {Name: "b"}, {Name: "c", Width: 3}}}
	q := register(t, n, 1, vec(1, 1))
	n.Regs[0].Next = input(t, n, 1)
	claim(n, number(t, n, vec(1, 1)), q)
	a := mustCheck(t, n, 3, 10)
	if a.Verdict != bmc.Fail || a.Cycles != 2 || len(a.Witness.Ins[1]) != 4 || a.Witness.Ins[1][1] != (bv.Vec{}) {
		t.Errorf("P24.2: %+v", a)
	}
}
