package cyc_test

import (
	"testing"

	"sluicegate/api"
	"sluicegate/bv"
	"sluicegate/cyc"
	"sluicegate/evsim"
	"sluicegate/exec"
	"sluicegate/flat"
	"sluicegate/sample"
	"sluicegate/synth"
)

// stateIn returns the state of a netlist that a state of its design is.
func stateIn(d flat.Design, r synth.Result, s *exec.State) cyc.State {
	var o cyc.State
	for _, sig := range r.Regs {
		o.Regs = append(o.Regs, s.Sig(sig))
	}
	for _, sig := range r.Mems {
		var words []bv.Vec
		for at := range d.Sigs[sig].Words {
			words = append(words, s.Word(sig, at))
		}
		o.Words = append(o.Words, words)
	}
	return o
}

// cycleIn returns what a cycle of a netlist is, given the state of its design and
// the checked assertions.
func cycleIn(d flat.Design, s *exec.State, checks []exec.Check, number map[int]int) cyc.Cycle {
	var c cyc.Cycle
	for sig, x := range d.Sigs {
		if x.Words == 0 {
			c.Outs = append(c.Outs, s.Sig(sig))
		}
	}
	for _, x := range checks {
		c.Seen = append(c.Seen, cyc.Seen{Assert: number[x.Assert], Holds: x.Holds})
	}
	return c
}

// assertsIn returns the numbers in a netlist of the assertions of a design, none
// of which occurs twice.
func assertsIn(d flat.Design) map[int]int {
	number := map[int]int{}
	var count func(list []flat.Stmt)
	count = func(list []flat.Stmt) {
		for _, s := range list {
			if s.Kind == flat.Assert {
				number[s.Assert] = len(number)
			}
			count(s.Body)
			count(s.Else)
		}
	}
	for _, p := range d.Procs {
		if p.Kind == flat.Clocked {
			count(p.Body)
		}
	}
	return number
}

// mustSimulate fails unless Run for the netlist of a design computes what the
// simulator does in so many cycles, in which it is given any picks. It returns the
// number of assertions.
func mustSimulate(t *testing.T, pick sample.Choice, d flat.Design, start *exec.State, cycles int) int {
	t.Helper()
	r, _, err := synth.Synth(d)
	if err != api.OK {
		t.Fatalf("P18.1: error %d\n%s", err, flat.Text(d))
	}
	sim, _, err := evsim.New(d, start)
	if err != api.OK {
		t.Fatalf("P16.1: error %d\n%s", err, flat.Text(d))
	}
	s := stateIn(d, r, sim.State())
	if start == nil && !cyc.Begins(r.Net, s) {
		t.Fatalf("P19.1: %v is not the beginning\n%s", s, flat.Text(d))
	}
	var ins [][]bv.Vec
	var want []cyc.Cycle
	count := 0
	for range cycles {
		x := pick.Ins(d)
		var picks []int
		for range pick(40) {
			picks = append(picks, pick(41)-20)
		}
		checks, err := sim.Cycle(x, picks...)
		if err != api.OK {
			t.Fatalf("P16.1: error %d\n%s", err, flat.Text(d))
		}
		ins, want = append(ins, x), append(want, cycleIn(d, sim.State(), checks, assertsIn(d)))
		count += len(checks)
	}
	last, list, err := cyc.Run(r.Net, s, ins...)
	if err != api.OK || show(list) != show(want) || show(last) != show(stateIn(d, r, sim.State())) {
		t.Fatalf("P19.4: error %d, %v, %v; not %v, %v\n%s", err, last, list, stateIn(d, r, sim.State()), want, flat.Text(d))
	}
	return count
}

// TestP19_4AnyDesign compares several cycles of netlists and of the simulator.
func TestP19_4AnyDesign(t *testing.T) {
	pick := chooser(19, 10)
	count := 0
	for range 1500 {
		d := pick.Design()
		start := pick.State(d)
		if pick(4) == 0 {
			start = nil
		}
		count += mustSimulate(t, pick, d, start, 1+pick(6))
	}
	if count < 2000 {
		t.Errorf("P19.4: only %d assertions", count)
	}
}

// TestP19_4Sources: designs with hierarchy, memories, temps and assertions, for
// many cycles.
func TestP19_4Sources(t *testing.T) {
	pick := chooser(19, 11)
	for _, text := range []string{
		`module top (input clk, input push, input pop, input [3:0] d, output [3:0] q, output full); reg [3:0] m [0:3]; reg [1:0] r = 0; reg [1:0] w = 0; reg [2:0] n = 0; assign q = m[r]; assign full = n == 4;
		 always @(posedge clk) begin if (push && !full) begin m[w] <= d; w <= w + 1; end if (pop && n != 0) r <= r + 1; case ({push && !full, pop && n != 0}) 2: n <= n + 1; 1: n <= n - 1; default: ; endcase fits: assert (n <= 4); end endmodule`,
		`module top (input clk, input [2:0] a, input b, output [3:0] y, output z); wire [3:0] w; wire c; count u (.clk(clk), .by(a), .n(w)); count #(.K(3)) v (.clk(clk), .by(w[2:0]), .n(y), .over(c)); assign z = c ^ b; endmodule
		 module count #(parameter K = 1) (input clk, input [2:0] by, output reg [3:0] n = 2, output over); always @(posedge clk) begin if (by) n <= n + by * K; ok: assert (n != 5); end assign over = n > 9; endmodule`,
		`module top (input clk, input [1:0] a, input [2:0] b, output reg [2:0] q); reg [2:0] m [0:2]; reg [2:0] t; reg [1:0] k = 3;
		 always @(posedge clk) begin t = m[a] + b; m[k] <= t; if (t[0]) begin m[a] <= b; q <= m[b]; low: assert (t < 6); end else begin q[a] <= b; t = t ^ q; end k <= t; high: assert (t != q); end
		 always @(posedge clk) if (b[2]) other: assert (m[0] != m[1]); endmodule`,
	} {
		d, ok := sample.Elaborated(text)
		if !ok {
			t.Fatalf("no design: %s", text)
		}
		for range 20 {
			mustSimulate(t, pick, d, nil, api.MaxCycles)
			mustSimulate(t, pick, d, pick.State(d), 50)
		}
	}
}
