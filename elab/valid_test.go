package elab_test

import (
	"fmt"
	"slices"
	"testing"

	"sluicegate/api"
	"sluicegate/bv"
	"sluicegate/flat"
	"sluicegate/typed"
)

// faultOf says why a design is not valid as chapters 12 and 13 describe it,
// except for the errors of Analyze, or nothing.
func faultOf(d flat.Design) string {
	c := &checker{Design: d, seen: map[*typed.Expr]bool{}, asserted: make([]int, len(d.Asserts))}
	if len(d.Places) != len(d.Sigs) {
		c.fault = "places"
	}
	for _, x := range d.Sigs {
		if x.Width < 1 || x.Width > api.MaxWidth || x.Words < 0 || x.Words > api.MaxWords || x.Name == "" {
			c.fault = show(x)
		}
	}
	for _, list := range [][]int{d.Inputs, d.Outputs} {
		if !slices.IsSorted(list) || slices.ContainsFunc(list, func(sig int) bool { return !c.isSignal(sig) }) {
			c.fault = "ports"
		}
	}
	for _, p := range d.Procs {
		if p.Pos == (api.Pos{}) || p.Kind < flat.Wire || p.Kind > flat.Clocked {
			c.fault = show(p)
		}
		c.stmts(p.Body)
	}
	for i, count := range c.asserted {
		if count != 1 {
			c.fault = fmt.Sprintf("assertion %d occurs %d times", i, count)
		}
	}
	if len(d.Sigs) > api.MaxSignals || len(d.Procs) > api.MaxProcs || c.count > api.MaxStmts {
		c.fault = "a limit"
	}
	return c.fault
}

type checker struct {
	flat.Design
	seen     map[*typed.Expr]bool
	asserted []int
	count    int
	fault    string
}

func (c *checker) isSignal(sig int) bool {
	return sig >= 0 && sig < len(c.Sigs) && c.Sigs[sig].Words == 0
}

func (c *checker) stmts(list []flat.Stmt) {
	for _, s := range list {
		c.count++
		plain := flat.Stmt{Kind: s.Kind, Pos: s.Pos}
		bare := s
		bare.Value = typed.Expr{}
		switch s.Kind {
		case flat.Set, flat.Later:
			plain.Target = s.Target
			c.target(s.Target, s.Value.Width)
		case flat.If:
			plain.Body, plain.Else = s.Body, s.Else
		case flat.Assert:
			plain.Assert = s.Assert
			c.asserted[s.Assert]++
		}
		if show(plain) != show(bare) || s.Pos == (api.Pos{}) {
			c.fault = "a field: " + show(s)
		}
		c.expr(s.Value)
		c.stmts(s.Body)
		c.stmts(s.Else)
	}
}

// target checks a target of a value with the given width.
func (c *checker) target(t flat.Target, width int) {
	x := c.Sigs[t.Sig]
	switch {
	case len(t.Index) == 0:
		if x.Words != 0 || t.Lo < 0 || t.Width != width || t.Lo+t.Width > x.Width {
			c.fault = "a target: " + show(t)
		}
		return
	case x.Words == 0:
		x.Width = 1
	}
	if t.Lo != 0 || t.Width != 0 || len(t.Index) != 1 || x.Width != width {
		c.fault = "a target: " + show(t)
	}
	c.expr(t.Index[0])
}

// expr checks that the parts of an expression have the right widths, and belong
// to no other expression.
func (c *checker) expr(e typed.Expr) {
	for i := range e.Args {
		if c.seen[&e.Args[i]] {
			c.fault = "shared memory"
		}
		c.seen[&e.Args[i]] = true
		c.expr(e.Args[i])
	}
	ok := false
	switch e.Kind {
	case typed.Const:
		ok = e.Val.Width() == e.Width
	case typed.Ref:
		ok = c.isSignal(e.Sig) && c.Sigs[e.Sig].Width == e.Width
	case typed.Word:
		ok = !c.isSignal(e.Sig) && c.Sigs[e.Sig].Width == e.Width && len(e.Args) == 1
	default:
		var zeros []bv.Vec
		for _, arg := range e.Args {
			zeros = append(zeros, vec(arg.Width, 0))
		}
		ok = typed.Value(e, zeros...).Width() == e.Width
	}
	if !ok || e.Width < 1 || e.Width > api.MaxWidth {
		c.fault = "an expression: " + show(e)
	}
}

func TestP14_1ADesign(t *testing.T) {
	d := built(t, "P14.1", `module top (input clk, input signed [3:0] a, output reg [7:0] q = 3, output y, input b, output reg [39:0] r = -2);
		reg signed [2:0] s = 5; wire w; reg [7:0] m [0:5]; reg c; integer i; localparam N = 2; reg [3:0] t;
		assign w = a[1] & b;
		assign y = w;
		always @* begin c = 0; if (w) c = b; end
		always @(posedge clk) begin t = a; q <= q + t; m[a] <= q; s <= c; if (b) r <= 0; else r[N] <= m[2] > 3; ok: assert (q != 7); assert (w); end
	endmodule`)
	want := []typed.Sig{
		{Name: "a", Width: 4, Signed: true}, {Name: "q", Width: 8}, {Name: "y", Width: 1}, {Name: "b", Width: 1}, {Name: "r", Width: 40},
		{Name: "s", Width: 3, Signed: true}, {Name: "w", Width: 1}, {Name: "m", Width: 8, Words: 6}, {Name: "c", Width: 1}, {Name: "t", Width: 4},
	}
	if show(d.Sigs) != show(want) {
		t.Errorf("P14.1: %v", d.Sigs)
	}
	if show(d.Inputs) != "[0 3]" || show(d.Outputs) != "[1 2 4]" || show(d.Asserts) != "[ok#0 assert#1]" {
		t.Errorf("P14.1: %v, %v, %v", d.Inputs, d.Outputs, d.Asserts)
	}
	r, _ := bv.New(40, 1<<40-2)
	starts := []flat.Start{{Sig: 1, Val: vec(8, 3)}, {Sig: 4, Val: r}, {Sig: 5, Val: vec(3, 5)}}
	if show(d.Starts) != show(starts) {
		t.Errorf("P14.1: %v", d.Starts)
	}
	info, _, _ := flat.Analyze(d)
	if show(info.Roles) != show([]int{flat.Input, flat.Reg, flat.Net, flat.Input, flat.Reg, flat.Reg, flat.Net, flat.Memory, flat.Net, flat.Temp}) {
		t.Errorf("P14.1: %v", info.Roles)
	}
	kinds := ""
	for _, p := range d.Procs {
		kinds += show(p.Kind)
	}
	if kinds != show(flat.Wire)+show(flat.Wire)+show(flat.Comb)+show(flat.Clocked) {
		t.Errorf("P14.1: %s", kinds)
	}
}

// TestP14_1Positions: signals and processes have the positions of their items,
// and statements their own.
func TestP14_1Positions(t *testing.T) {
	d := built(t, "P14.1", "module top (input clk, input a,\noutput y);\n reg r; assign y = a;\n always @(posedge clk)\nif (a) r <= 1; else case (a) 0: r <= y; endcase\nendmodule")
	for i, want := range []api.Pos{{File: 1, Line: 1, Col: 24}, {File: 1, Line: 2, Col: 1}, {File: 1, Line: 3, Col: 2}} {
		if d.Places[i] != want {
			t.Errorf("P14.1: signal %d: %v", i, d.Places[i])
		}
	}
	first := d.Procs[1].Body[0]
	for _, x := range []struct{ pos, want api.Pos }{
		{d.Procs[0].Pos, api.Pos{File: 1, Line: 3, Col: 9}}, {d.Procs[0].Body[0].Pos, api.Pos{File: 1, Line: 3, Col: 9}},
		{d.Procs[1].Pos, api.Pos{File: 1, Line: 4, Col: 2}}, {first.Pos, api.Pos{File: 1, Line: 5, Col: 1}},
		{first.Body[0].Pos, api.Pos{File: 1, Line: 5, Col: 8}}, {first.Else[0].Pos, api.Pos{File: 1, Line: 5, Col: 21}},
	} {
		if x.pos != x.want {
			t.Errorf("P14.1: %v, not %v", x.pos, x.want)
		}
	}
}

// TestP14_1Starts: initial values are the lowest bits of any number.
func TestP14_1Starts(t *testing.T) {
	for _, x := range []struct {
		bounds, value string
		want          string
	}{
		{"", "1", "1"}, {"", "2", "0"}, {"", "-1", "1"}, {"[3:0]", "17", "0001"}, {"[3:0]", "-3", "1101"}, {"signed [3:0]", "8", "1000"},
		{"[33:0]", "-1", "1111111111111111111111111111111111"}, {"[33:0]", "2147483647", "0001111111111111111111111111111111"},
		{"[33:0]", "- 2147483647 - 1", "1110000000000000000000000000000000"}, {"[2:0]", "K + 1", "110"}, {"[1:0]", "K > 2 ? 2 : no", "10"},
	} {
		d := built(t, "P14.1", "module top #(parameter K = 5) (input clk); reg "+x.bounds+" r = "+x.value+"; always @(posedge clk) r <= 0; endmodule")
		if len(d.Starts) != 1 || d.Starts[0].Val.Text() != x.want {
			t.Errorf("P14.1: %s: %v, not %s", x.value, d.Starts, x.want)
		}
	}
	d := built(t, "P14.1", "module top (input clk); reg [127:0] r = -2; always @(posedge clk) r <= 0; endmodule")
	if v := d.Starts[0].Val; v.Width() != 128 || v.Bit(0) || !v.Bit(1) || !v.Bit(63) || !v.Bit(64) || !v.Bit(127) {
		t.Errorf("P14.1: %s", v.Text())
	}
}

// TestP14_1Targets: parts of signals, and what an Index becomes.
func TestP14_1Targets(t *testing.T) {
	index := typed.Expr{Kind: typed.Ref, Width: 2, Sig: 1}
	for _, x := range []struct {
		text string
		want flat.Target
	}{
		{"q = a;", flat.Target{Sig: 2, Width: 5}}, {"q[0] = a;", flat.Target{Sig: 2, Width: 1}}, {"q[4] = a;", flat.Target{Sig: 2, Lo: 4, Width: 1}},
		{"q[3:1] = a;", flat.Target{Sig: 2, Lo: 1, Width: 3}}, {"q[4:0] = a;", flat.Target{Sig: 2, Width: 5}}, {"q[K + 1] = a;", flat.Target{Sig: 2, Lo: 3, Width: 1}},
		{"q[K:K] = a;", flat.Target{Sig: 2, Lo: 2, Width: 1}}, {"q[i] = a;", flat.Target{Sig: 2, Index: []typed.Expr{index}}},
		{"m[i] <= a;", flat.Target{Sig: 3, Index: []typed.Expr{index}}}, {"m[1] <= a;", flat.Target{Sig: 3, Index: []typed.Expr{typed.Num(vec(32, 1))}}},
		{"m[2'd3] <= a;", flat.Target{Sig: 3, Index: []typed.Expr{typed.Num(vec(2, 3))}}}, {"m[99] <= a;", flat.Target{Sig: 3, Index: []typed.Expr{typed.Num(vec(32, 99))}}},
		{"n = a;", flat.Target{Sig: 4, Width: 1}}, {"n[0] = a;", flat.Target{Sig: 4, Width: 1}}, {"n[0:0] = a;", flat.Target{Sig: 4, Width: 1}},
	} {
		d := built(t, "P14.1", "module top #(parameter K = 2) (input clk, input [7:0] a, input [1:0] i); reg [4:0] q; reg [2:0] m [0:3]; reg n; always @(posedge clk) begin q = 0; n = 0; "+x.text+" end endmodule")
		s := d.Procs[0].Body[2]
		if show(s.Target) != show(x.want) {
			t.Errorf("P14.1: %s %+v", x.text, s.Target)
		}
	}
}

// TestP14_1Values: values have the width of the target, and conditions their own.
func TestP14_1Values(t *testing.T) {
	d := built(t, "P14.1", `module top (input clk, input [3:0] a, input signed [3:0] b, output [7:0] y, output z);
		assign y = a + 4'd15; assign z = a + 4'd15; reg [7:0] q; reg [2:0] m [0:3]; reg s;
		always @(posedge clk) begin q <= b; q[6:1] <= b; q[a] <= b; m[a + a] <= b; if (a + 4'd15) s <= 1; assert (a - b); assert (a == 3); end endmodule`)
	body := d.Procs[2].Body
	widths := []int{d.Procs[0].Body[0].Value.Width, d.Procs[1].Body[0].Value.Width}
	for _, s := range body {
		widths = append(widths, s.Value.Width)
	}
	if show(widths) != show([]int{8, 1, 8, 6, 1, 3, 4, 4, 1}) || body[3].Target.Index[0].Width != 4 {
		t.Errorf("P14.1: %v, %v", widths, body[3].Target)
	}
	m := run(d)
	m.set(1, 9)
	if m.get("y") != 16 || m.get("z") != 0 {
		t.Errorf("P14.1: %d, %d", m.get("y"), m.get("z"))
	}
	m.set(0, 9)
	m.step()
	if m.get("q") != 0xf3 {
		t.Errorf("P14.1: %b", m.get("q"))
	}
}

// TestP14_1Examples: the numbers of signals, processes and assertions of the
// examples in DOC.md.
func TestP14_1Examples(t *testing.T) {
	for text, want := range map[string]string{
		"module top (input clk, output reg [1:0] q); always @(posedge clk) begin q <= q + 1; p: assert (q != 3); end endmodule":                                                          "[1 1 1] [p#0]",
		"module top (input clk, output reg [1:0] q = 0); always @(posedge clk) begin q <= q + 1; p: assert (q != 3); end endmodule":                                                      "[1 1 1] [p#0]",
		"module top (input clk, input a, output y); reg s = 0; assign y = s ^ a; always @(posedge clk) begin s <= y; if (a) even: assert (!s); end endmodule":                            "[3 2 1] [even#0]",
		"module top (input clk, input [1:0] a); reg [3:0] m [0:3]; reg [1:0] k = 0; always @(posedge clk) begin m[a] <= 5; k <= k + 1; if (k == 1) p: assert (m[0] == 5); end endmodule": "[3 1 1] [p#0]",
		"module top (output [2-1:0] y); assign y = 1; endmodule":                                                                                                                         "[1 1 0] []",
		"module top (input clk, input [3:0] a, input [3:0] b); always @(posedge clk) p: assert ((a & b) == (b & a)); endmodule":                                                          "[2 1 1] [p#0]",
	} {
		d := built(t, "P14.1", text)
		if have := show([]int{len(d.Sigs), len(d.Procs), len(d.Asserts)}) + " " + show(d.Asserts); have != want {
			t.Errorf("P14.1: %s: %s, not %s", text, have, want)
		}
	}
}
