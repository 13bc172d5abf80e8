package tool_test

import (
	"fmt"
	"strings"
	"testing"

	"sluicegate/bmc"
	"sluicegate/synth"
	"sluicegate/tool"
)

// counter counts up, and fails if q is 3.
const counter = "module top (input clk, output reg [1:0] q); always @(posedge clk) begin q <= q + 1; p: assert (q != 3); end endmodule"

// product is hard: it takes hundreds of conflicts in the third cycle and in each later one.
const product = "module top (input clk, input [3:0] a, input [3:0] b, input [3:0] c); reg [1:0] k = 0; always @(posedge clk) begin k <= k + (k != 3); if (k == 2) p: assert (a * (b * c) == (a * b) * c); end endmodule"

// vast has gates beyond the limit.
const vast = "module top (input clk, input [127:0] a, input [127:0] b); reg [127:0] q; always @(posedge clk) begin q <= q / a; p: assert (a * b / q == a % b); end endmodule"

// huge has nodes beyond the limit.
func huge() string {
	text := "module top (input clk, input [31:0] a, output [127:0] y); function [31:0] f0; input [31:0] x; f0 = x * x; endfunction\n"
	for i := 1; i < 8; i++ {
		text += fmt.Sprintf("function [31:0] f%d; input [31:0] x; f%d = f%d(x) ^ f%d(x + %d); endfunction\n", i, i, i-1, i-1, 1<<i)
	}
	for i := range 128 {
		text += fmt.Sprintf("assign y[%d] = &f7(a ^ %d);\n", i, i<<12)
	}
	return text + "endmodule"
}

// TestP27_1Examples: those of the document.
func TestP27_1Examples(t *testing.T) {
	first := strings.Replace(counter, "] q)", "] q = 0)", 1)
	for i, x := range []struct {
		text  string
		bound int
		want  string
	}{
		{counter, 2, "design 1 1 1 / net 1 0 / fail 0 p#0"},
		{first, 3, "design 1 1 1 / net 1 0 / safe 3"},
		{first, 4, "design 1 1 1 / net 1 0 / fail 3 p#0"},
		{"module top (input clk, input a, output y); reg s = 0; assign y = s ^ a; always @(posedge clk) begin s <= y; if (a) even: assert (!s); end endmodule", 3, "design 3 2 1 / net 1 0 / fail 1 even#0"},
		{"module top (input clk, input [1:0] a); reg [3:0] m [0:3]; reg [1:0] k = 0; always @(posedge clk) begin m[a] <= 5; k <= k + 1; if (k == 1) p: assert (m[0] == 5); end endmodule", 3, "design 3 1 1 / net 1 1 / fail 1 p#0"},
		{"module top (input a, output y); assign y = z; endmodule", 1, "t.v:1:44: error 9"},
		{"module top (output y); wire w; assign y = w; assign w = y; endmodule", 1, "t.v:1:32: error 15"},
		{"module top (input clk, output reg q); reg t; always @(posedge clk) t = q; always @(posedge clk) q <= t; endmodule", 1, "t.v:1:75: error 17"},
		{"`define W 2\nmodule top (output [`W-1:0] y); assign y = 1; endmodule", 1, "design 1 1 0 / net 0 0 / safe 1"},
		{"module top (input clk, input [3:0] a, input [3:0] b); always @(posedge clk) p: assert ((a & b) == (b & a)); endmodule", 1, "design 2 1 1 / net 0 0 / safe 1"},
	} {
		r := mustRun(t, one(x.text), "t.v", "top", x.bound, 1000)
		if joined(r.Lines) != x.want {
			t.Errorf("P27.1: example %d: %s, not %s", i+1, joined(r.Lines), x.want)
		}
	}
}

// TestP27_1Counts: the numbers of signals, processes, assertions, registers and memories
// are different ones here.
func TestP27_1Counts(t *testing.T) {
	text := "module top (input clk, input a, output y, output z); reg [3:0] m [0:3]; reg [0:0] n [0:0]; reg q; reg r; reg s; assign y = m[a]; assign z = q; always @(posedge clk) begin s = a; r <= s; q <= r; m[a] <= r; x: assert (1); end always @(posedge clk) n[0] <= a; endmodule"
	r := mustRun(t, one(text), "t.v", "top", 2, 100)
	if joined(r.Lines) != "design 8 4 1 / net 3 2 / safe 2" {
		t.Errorf("P27.1: %s", joined(r.Lines))
	}
	r = mustRun(t, one("module top (); endmodule"), "t.v", "top", 12, 0)
	if joined(r.Lines) != "design 0 0 0 / net 0 0 / safe 12" {
		t.Errorf("P27.1: %s", joined(r.Lines))
	}
}

// TestP27_1Errors: those of layer 18 and of bmc.Check come after the lines before them.
func TestP27_1Errors(t *testing.T) {
	for _, bound := range []int{least, -1, 0, 13, 14, most} {
		for _, text := range []string{counter, vast, product} {
			r := mustRun(t, one(text), "t.v", "top", bound, 1)
			if len(r.Lines) != 3 || r.Lines[2] != "error 3" {
				t.Errorf("P27.1: %s", joined(r.Lines))
			}
		}
	}
	if r := mustRun(t, one(counter), "t.v", "top", 0, 1); joined(r.Lines) != "design 1 1 1 / net 1 0 / error 3" {
		t.Errorf("P27.1: %s", joined(r.Lines))
	}
	for _, bound := range []int{1, 12} {
		r := mustRun(t, one(strings.Replace(counter, "q != 3", "q == q", 1)), "t.v", "top", bound, 1)
		if joined(r.Lines) != fmt.Sprint("design 1 1 1 / net 1 0 / safe ", bound) {
			t.Errorf("P27.1: %s", joined(r.Lines))
		}
	}
	d := mustDesign(t, huge())
	want := fmt.Sprintf("design %d %d %d / error 19", len(d.Sigs), len(d.Procs), len(d.Asserts))
	for _, bound := range []int{0, 1, 12, 13} { // layer 18 comes first
		if r := mustRun(t, one(huge()), "t.v", "top", bound, 1); joined(r.Lines) != want {
			t.Errorf("P27.1: %s", joined(r.Lines))
		}
	}
}

// TestP27_1Unknown: the cycles in which nothing fails, and why that is all.
func TestP27_1Unknown(t *testing.T) {
	for _, x := range []struct {
		text          string
		bound, budget int
		want          string
	}{
		{product, 2, 0, "safe 2"}, {product, 3, 0, "unknown 2 18"}, {product, 12, 1, "unknown 2 18"}, {product, 3, least, "unknown 2 18"}, {product, 3, 5000, "safe 3"}, {product, 3, most, "safe 3"},
		{strings.Replace(product, "k == 2", "k == 0", 1), 1, 0, "unknown 0 18"}, {vast, 1, 1000, "unknown 0 19"}, {vast, 12, 0, "unknown 0 19"}, {vast, 1, most, "unknown 0 19"},
	} {
		if r := mustRun(t, one(x.text), "t.v", "top", x.bound, x.budget); r.Lines[2] != x.want {
			t.Errorf("P27.1: %s, not %s, with the bound %d and the budget %d", joined(r.Lines), x.want, x.bound, x.budget)
		}
	}
}

// TestP5Enough: with a budget computed from the number of variables, it is never unknown
// for lack of budget.
func TestP5Enough(t *testing.T) {
	pick := chooser(27, 7)
	for i := range 200 {
		text, bound := product, 4
		if i > 0 {
			text, bound = anyMachine(pick).text, 1+pick(12)
		}
		s, _, _ := synth.Synth(mustDesign(t, text))
		r := tool.Run(one(text), "t.v", "top", bound, bmc.Enough(s.Net, bound))
		if strings.HasPrefix(r.Lines[2], "unknown") {
			t.Fatalf("P5: %s: %s", joined(r.Lines), text)
		}
	}
}
