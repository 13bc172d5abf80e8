package blast_test

import (
	"testing"

	"sluicegate/aig"
	"sluicegate/api"
	"sluicegate/bv"
	"sluicegate/cyc"
	"sluicegate/memabs"
	"sluicegate/sample"
	"sluicegate/synth"
)

// mustRun fails unless a graph, cycle by cycle, computes what a design's netlist
// with memories does. It returns the number of assertions.
func mustRun(t *testing.T, pick sample.Choice, text string, cycles int) int {
	t.Helper()
	d, ok := sample.Elaborated(text)
	if !ok {
		t.Fatalf("no design: %s", text)
	}
	x, _, err := synth.Synth(d)
	if err != api.OK {
		t.Fatalf("P18.1: error %d", err)
	}
	removed, err := memabs.Remove(x.Net, cycles)
	if err != api.OK {
		t.Fatalf("P20.1: error %d", err)
	}
	r := mustBlast(t, removed.Net)
	v := pick.Values(x.Net)
	s := cyc.State{Regs: v.Regs, Words: v.Words}
	start, err := memabs.Start(removed, x.Net, s)
	if err != api.OK {
		t.Fatalf("P20.3: error %d", err)
	}
	regs, count := bitsOf(start.Regs...), 0
	for i := range cycles {
		ins := pick.Ins(d)
		outs, _ := cyc.Outs(x.Net, s, ins...)
		after, seen, err := cyc.Step(x.Net, s, ins...)
		if err != api.OK {
			t.Fatalf("P19.2: error %d", err)
		}
		vals := r.Graph.Eval(append(bitsOf(ins...), regs...)...)
		for k, v := range outs {
			if textOf(vals, r.Outs[k]) != v.Text() {
				t.Fatalf("P22.1: cycle %d, output %d: %s, not %s\n%s", i, k, textOf(vals, r.Outs[k]), v.Text(), text)
			}
		}
		var checks []cyc.Seen
		for k := range r.On {
			if aig.Is(vals, r.On[k]) {
				checks = append(checks, cyc.Seen{Assert: k, Holds: aig.Is(vals, r.Is[k])})
			}
		}
		if show(checks) != show(seen) {
			t.Fatalf("P22.1: cycle %d: assertions %v, not %v\n%s", i, checks, seen, text)
		}
		s, regs, count = after, nil, count+len(seen)
		for _, lits := range r.Next {
			for _, lit := range lits {
				regs = append(regs, aig.Is(vals, lit))
			}
		}
	}
	mustHave(t, removed.Regs, r.Next, regs, s.Regs)
	return count
}

// mustHave fails unless the registers with these numbers have these values, where
// bits are those of all registers.
func mustHave(t *testing.T, numbers []int, lists [][]int, bits []bool, values []bv.Vec) {
	t.Helper()
	var starts []int
	at := 0
	for _, list := range lists {
		starts = append(starts, at)
		at += len(list)
	}
	for i, v := range values {
		from := starts[numbers[i]]
		if got, err := bv.Of(bits[from : from+v.Width()]...); err != api.OK || got != v {
			t.Fatalf("P22.1: register %d is %s, not %s", i, got.Text(), v.Text())
		}
	}
}

// TestP22_1Sources: designs with hierarchy, memories, temps and assertions, for
// several cycles.
func TestP22_1Sources(t *testing.T) {
	pick := chooser(22, 30)
	for _, text := range []string{
		`module top (input clk, input push, input pop, input [3:0] d, output [3:0] q, output full); reg [3:0] m [0:3]; reg [1:0] r = 0; reg [1:0] w = 0; reg [2:0] n = 0; assign q = m[r]; assign full = n == 4;
		 always @(posedge clk) begin if (push && !full) begin m[w] <= d; w <= w + 1; end if (pop && n != 0) r <= r + 1; case ({push && !full, pop && n != 0}) 2: n <= n + 1; 1: n <= n - 1; default: ; endcase fits: assert (n <= 4); end endmodule`,
		`module top (input clk, input [2:0] a, input b, output [3:0] y, output z); wire [3:0] w; wire c; count u (.clk(clk), .by(a), .n(w)); count #(.K(3)) v (.clk(clk), .by(w[2:0]), .n(y), .over(c)); assign z = c ^ b; endmodule
		 module count #(parameter K = 1) (input clk, input [2:0] by, output reg [3:0] n = 2, output over); always @(posedge clk) begin if (by) n <= n + by * K; ok: assert (n != 5); end assign over = n > 9; endmodule`,
		`module top (input clk, input [1:0] a, input [2:0] b, output reg [2:0] q); reg [2:0] m [0:2]; reg [2:0] t; reg [1:0] k = 3;
		 always @(posedge clk) begin t = m[a] + b; m[k] <= t; if (t[0]) begin m[a] <= b; q <= m[b]; low: assert (t < 6); end else begin q[a] <= b; t = t ^ q; end k <= t; high: assert (t != q); end
		 always @(posedge clk) if (b[2]) other: assert (m[0] != m[1]); endmodule`,
		`module top (input clk, input signed [5:0] a, input signed [5:0] b, output signed [11:0] y); reg signed [5:0] q; reg signed [5:0] r; assign y = (q * b) >>> r[1:0];
		 always @(posedge clk) begin q <= a / b; r <= a % b; if (b != 0) whole: assert (q * 10 / 10 == q); if (r > a) more: assert (r <= b % 7); end endmodule`,
	} {
		count := 0
		for range 40 {
			count += mustRun(t, pick, text, 1+pick(api.MaxBound))
		}
		if count < 100 {
			t.Errorf("P22.1: only %d assertions\n%s", count, text)
		}
	}
}
