package elab_test

import (
	"testing"

	"sluicegate/api"
	"sluicegate/elab"
	"sluicegate/flat"
	"sluicegate/typed"
)

func TestP14_4Paths(t *testing.T) {
	d := built(t, "P14.4", `
module leaf (input a, output y); wire w; assign w = a; assign y = w; endmodule
module mid (input clk, input [1:0] a, output [1:0] y); genvar g; wire v;
	for (g = 1; g >= 0; g = g - 1) begin : each leaf u (.a(a[g]), .y(y[g])); end
	if (1) begin : on assign v = a[0]; reg r; always @(posedge clk) begin r <= v; p: assert (r); assert (v); end end else begin : off wire x; end
endmodule
module top (input clk, input [1:0] a, output [1:0] y);
	mid m (.clk(clk), .a(a), .y(y));
	genvar i; genvar j;
	for (i = -1; i < 2; i = i + 2) begin : h wire w; assign w = a[0]; if (i < 0) begin : neg wire k; assign k = w; end else begin : pos wire k; assign k = ~w; end
		for (j = 0; j < 1; j = j + 1) begin : k wire w; assign w = a[j]; end end
	always @(posedge clk) q: assert (a);
endmodule`[1:])
	want := "a y m.y m.v m.each[1].u.a m.each[1].u.y m.each[1].u.w m.each[0].u.a m.each[0].u.y m.each[0].u.w m.on.r h[-1].w h[-1].neg.k h[-1].k[0].w h[1].w h[1].pos.k h[1].k[0].w"
	if names(d) != want {
		t.Errorf("P14.4: %s", names(d))
	}
	if show(d.Asserts) != "[m.on.p#0 m.on.assert#1 q#2]" {
		t.Errorf("P14.4: %v", d.Asserts)
	}
	m := run(d)
	for n := range uint64(4) {
		m.set(n)
		if m.get("y") != n || m.get("h[-1].neg.k") != n&1 || m.get("h[1].pos.k") != 1-n&1 {
			t.Errorf("P14.4: %d: %v", n, m.sigs)
		}
	}
}

// TestP14_4Numbers: signals in the order of their declarations, ports first.
func TestP14_4Numbers(t *testing.T) {
	d := built(t, "P14.4", `module top (input a, output y, input clk, output reg z, input b); wire w; s u (.b(w), .a(a | b)); reg r; assign w = r; assign y = w; s v (.a(w), .c(), .b(y)); always @* begin r = a; z = b; end endmodule
		module s (input a, output c, input b); reg q; wire d; assign c = d; assign d = q; always @* q = a ^ b; endmodule`)
	if names(d) != "a y z b w u.a u.c u.q u.d r v.c v.q v.d" {
		t.Errorf("P14.4: %s", names(d))
	}
	if show(d.Inputs) != "[0 3]" || show(d.Outputs) != "[1 2]" {
		t.Errorf("P14.4: %v, %v", d.Inputs, d.Outputs)
	}
	if d.Places[5] != d.Places[6] && d.Places[6] != d.Places[10] || d.Places[6] == d.Places[8] {
		t.Errorf("P14.4: %v", d.Places)
	}
}

// reads returns the number of the signal of which process i assigns all bits,
// and the signal that it sets.
func reads(d flat.Design, i int) (from, to int) {
	s := d.Procs[i].Body[0]
	if s.Value.Kind != typed.Ref {
		return -1, s.Target.Sig
	}
	return s.Value.Sig, s.Target.Sig
}

// TestP14_4Ports: which ports are signals of their own.
func TestP14_4Ports(t *testing.T) {
	const sub = " endmodule module s (input [1:0] a, output [1:0] y); assign y = a; endmodule"
	for _, x := range []struct {
		ports, items string
		want         string
	}{
		{"input [1:0] b, output [1:0] z", "s u (.a(b), .y(z));", "b z u.y"},
		{"input [1:0] b, output [1:0] z", "s u (.y(z), .a(b));", "b z u.y"},
		{"input signed [1:0] b, output [1:0] z", "s u (.a((b)), .y(z));", "b z u.y"},
		{"input [2:0] b, output [1:0] z", "s u (.a(b), .y(z));", "b z u.a u.y"},
		{"input b, output [1:0] z", "s u (.a(b), .y(z));", "b z u.a u.y"},
		{"input [1:0] b, output [1:0] z", "s u (.a(b[1:0]), .y(z));", "b z u.a u.y"},
		{"input [1:0] b, output [1:0] z", "s u (.a(+b), .y(z));", "b z u.y"},
		{"input [1:0] b, output [1:0] z", "s u (.a({b}), .y(z));", "b z u.a u.y"},
		{"input [1:0] b, output [1:0] z", "s u (.a(2'd1), .y(z));", "b z u.a u.y"},
		{"input [1:0] b", "s u (.a(b));", "b u.y"},
		{"input [1:0] b", "s u (.a(b), .y());", "b u.y"},
		{"input [1:0] b, output [1:0] z", "wire [1:0] w; assign w = b; s u (.a(w), .y(z));", "b z w u.y"},
		{"input [1:0] b, output reg [1:0] z", "always @* z = b; s u (.a(z));", "b z u.y"},
		{"input clk, input [1:0] b", "reg [1:0] r; always @(posedge clk) r <= b; s u (.a(r));", "b r u.y"},
		{"input [31:0] b", "localparam N = 2; s u (.a(N));", "b u.a u.y"},
		{"input [1:0] b, output [1:0] z", "wire [1:0] v; s u (.a(b), .y(v)); s w (.a(v), .y(z));", "b z v u.y w.y"},
	} {
		d := built(t, "P14.4", "module top ("+x.ports+"); "+x.items+sub)
		if names(d) != x.want {
			t.Errorf("P14.4: %s: %s", x.items, names(d))
		}
	}
	d := built(t, "P14.4", "module top (input [1:0] b, output [1:0] z); s u (.a(b), .y(z));"+sub)
	if from, to := reads(d, 0); from != 0 || to != 2 {
		t.Errorf("P14.4: %d to %d", from, to)
	}
	if from, to := reads(d, 1); from != 2 || to != 1 {
		t.Errorf("P14.4: %d to %d", from, to)
	}
}

// TestP14_4Processes: those for ports come after the module of the instance, in
// the order of the ports.
func TestP14_4Processes(t *testing.T) {
	d := built(t, "P14.4", `module top (input [1:0] b, output [2:0] z, output x); s u (.c(z[2]), .y(z[1:0]), .a(~b)); assign x = b[1]; endmodule
		module s (input [1:0] a, output [1:0] y, output c); t v (.a(a[0]), .y(c)); assign y = a; endmodule
		module t (input a, output y); assign y = a; endmodule`)
	var list []string
	for _, p := range d.Procs {
		s := p.Body[0]
		if p.Kind != flat.Wire || len(p.Body) != 1 || s.Kind != flat.Set {
			t.Errorf("P14.4: %v", p)
		}
		list = append(list, d.Sigs[s.Target.Sig].Name)
	}
	if show(list) != "[u.v.y u.v.a u.c u.y u.a z z x]" {
		t.Errorf("P14.4: %v", list)
	}
	for i, col := range map[int]int{4: 82, 5: 70, 6: 60} { // the connections of u
		if want := (api.Pos{File: 1, Line: 1, Col: col}); d.Procs[i].Pos != want || d.Procs[i].Body[0].Pos != want {
			t.Errorf("P14.4: process %d at %v, not %v", i, d.Procs[i].Pos, want)
		}
	}
}

// TestP14_4Signs: a port has the sign of its declaration, whatever it is
// connected to, and extends what is connected to it by that.
func TestP14_4Signs(t *testing.T) {
	for _, x := range []struct {
		outer, inner, port string
		want               uint64
	}{
		{"", "", "[3:0] a", 0}, {"signed", "", "[3:0] a", 0}, {"", "signed", "[3:0] a", 1}, {"signed", "signed", "[3:0] a", 1},
		{"", "", "[4:0] a", 0}, {"signed", "", "[4:0] a", 0}, {"", "signed", "[4:0] a", 0}, {"signed", "signed", "[4:0] a", 1},
	} {
		d := built(t, "P14.4", "module top (input "+x.outer+" [3:0] b, output z); s u (.a(b), .y(z)); endmodule module s (input "+x.inner+" "+x.port+", output y); assign y = a < 3'sd0; endmodule")
		m := run(d)
		m.set(9)
		if m.get("z") != x.want {
			t.Errorf("P14.4: %v: %d", x, m.get("z"))
		}
	}
	for sign, want := range map[string]uint64{"": 9, "signed": 0xf9} {
		d := built(t, "P14.4", "module top (input [3:0] b, output [7:0] z, output n); s u (.a(b), .y(z)); s v (.a(b), .y(n)); endmodule module s (input [3:0] a, output "+sign+" [3:0] y); assign y = a; endmodule")
		m := run(d)
		m.set(9)
		if m.get("z") != want || m.get("n") != 1 {
			t.Errorf("P14.4: %s: %d, %d", sign, m.get("z"), m.get("n"))
		}
	}
}

// TestP14_4Parameters: declared values, given ones, and what is computed from
// them, in the module that contains the instance.
func TestP14_4Parameters(t *testing.T) {
	const sub = " endmodule module s #(parameter K = 1, parameter L = K + 1) (output [K:0] y); localparam M = L * 2; assign y = M; endmodule"
	for _, x := range []struct {
		items string
		width int
		want  uint64
	}{
		{"s u ();", 2, 0}, {"s #() u ();", 2, 0}, {"s #(.K(4)) u ();", 5, 10}, {"s #(.L(1)) u ();", 2, 2}, {"s #(.L(3), .K(7)) u ();", 8, 6},
		{"localparam K = 5; s #(.K(K + 1)) u ();", 7, 14}, {"localparam L = 3; s #(.K(L), .L(L + 1)) u ();", 4, 8},
	} {
		d := built(t, "P14.4", "module top ();"+x.items+sub)
		if got := run(d).get("u.y"); d.Sigs[0].Width != x.width || got != x.want {
			t.Errorf("P14.4: %s: %d bits, %d", x.items, d.Sigs[0].Width, got)
		}
	}
	d := built(t, "P14.4", "module top #(parameter A = 3, parameter B = A) (output [A:0] y); assign y = B; endmodule")
	if d.Sigs[0].Width != 4 || run(d).get("y") != 3 {
		t.Errorf("P14.4: %v", d.Sigs)
	}
	built(t, "P14.4", "module top (); s #(.K(2)) u (); endmodule module s #(parameter K = 1 / 0) (output [K:0] y); assign y = 0; endmodule")
}

// TestP14_4Clock: the clock is not a signal.
func TestP14_4Clock(t *testing.T) {
	d := built(t, "P14.4", `module top (input a, input clk, output reg q); s u (.a(a), .clk(clk)); genvar i;
		for (i = 0; i < 2; i = i + 1) begin : g s v (.clk(clk), .a(a)); end always @(posedge clk) q <= a; endmodule
		module s (input signed clk, input a); reg r; always @(posedge clk) r <= a; endmodule`)
	if names(d) != "a q u.r g[0].v.r g[1].v.r" || show(d.Inputs) != "[0]" {
		t.Errorf("P14.4: %s", names(d))
	}
	d = built(t, "P14.4", "module top (input [0:0] clk, output y); assign y = clk; endmodule")
	if names(d) != "clk y" {
		t.Errorf("P14.4: %s", names(d))
	}
	d = built(t, "P14.4", "module top (input [1:0] a, output y); s u (.clk(a), .y(y)); endmodule module s (input [1:0] clk, output y); assign y = clk[1]; endmodule")
	if names(d) != "a y u.y" {
		t.Errorf("P14.4: %s", names(d))
	}
	d = built(t, "P14.4", "module top (input a, output y); wire w; s u (.clk(w)); assign y = w; endmodule module s (output clk); assign clk = 1; endmodule")
	if names(d) != "a y w u.clk" {
		t.Errorf("P14.4: %s", names(d))
	}
}

// TestP14_4Scopes: names of blocks hide others of the same name.
func TestP14_4Scopes(t *testing.T) {
	d := built(t, "P14.4", `module top (input [3:0] a, output [3:0] x, output [3:0] y, output [3:0] z); localparam N = 1; genvar i; integer k;
		function [3:0] f; input [3:0] b; f = b + N; endfunction
		if (1) begin : g wire [3:0] v; assign v = N; localparam N = 2; assign x = N + v;
			function [3:0] f; input [3:0] b; f = b + N; endfunction
			if (1) begin : h wire [3:0] N; assign N = f(a); assign y = N; end end
		assign z = f(a) + N;
	endmodule`)
	m := run(d)
	m.set(5)
	if m.get("x") != 3 || m.get("y") != 7 || m.get("z") != 7 {
		t.Errorf("P14.4: %v: %v", names(d), m.sigs)
	}
	built(t, "P14.4", "module top (input a, output reg [1:0] y); wire i; assign i = a; if (1) begin : g integer i; always @* for (i = 0; i < 2; i = i + 1) y[i] = a; end endmodule")
	built(t, "P14.4", "module top (output [1:0] y); integer i; if (1) begin : g genvar i; for (i = 0; i < 2; i = i + 1) begin : h assign y[i] = 1; end end endmodule")
	built(t, "P14.4", "module top (output [3:0] y); genvar i; for (i = 3; i < 4; i = i + 1) begin : h wire [3:0] i; assign i = 5; assign y = i; end endmodule")
	built(t, "P14.4", "module top (output [3:0] y); wire [3:0] f; assign f = 1; if (1) begin : g function [3:0] f; input a; f = a; endfunction assign y = f(1); end endmodule")
}

// TestP14_4HiddenFunctions: a loop variable hides an outer name and nothing else.
func TestP14_4HiddenFunctions(t *testing.T) {
	const head = "module top (input a, output [1:0] y); function f; input b; f = ~b; endfunction function g; input b; g = b; endfunction localparam n = 1; wire w; assign w = a; if (1) begin : h "
	d := built(t, "P14.4", head+"integer f; integer n; integer w; assign y = g(a); end endmodule")
	m := run(d)
	m.set(1)
	if m.get("y") != 1 {
		t.Errorf("P14.4: %v", m.sigs)
	}
	for _, use := range []string{"«f(a)", "«n", "«w"} {
		mustFail(t, api.ErrName, head+"integer f; integer n; integer w; assign y = "+use+"; end endmodule")
	}
}

// TestP14_4SameNames: blocks and instances have no names that could be declared
// twice.
func TestP14_4SameNames(t *testing.T) {
	d := built(t, "P14.4", "module top (); s u (); s u (); wire u; assign u = 1; if (1) begin : u wire w; assign w = 0; end endmodule module s (output w); assign w = 1; endmodule")
	if names(d) != "u.w u.w u u.w" {
		t.Errorf("P14.4: %s", names(d))
	}
}

// TestP14_4Top: any module can be the top one, and others are not examined.
func TestP14_4Top(t *testing.T) {
	mods := source(t, "module a (output y); assign y = no; endmodule module b (output z); assign z = 1; endmodule module c (); b u (); endmodule")
	for top, want := range map[string]string{"b": "z", "c": "u.z"} {
		d, _, err := elab.Elaborate(mods, top)
		if err != api.OK || names(d) != want {
			t.Errorf("P14.4: %s: %s, error %d", top, names(d), err)
		}
	}
	for _, top := range []string{"", "top", "A", "u"} {
		if d, pos, err := elab.Elaborate(mods, top); err != api.ErrName || pos != (api.Pos{}) || show(d) != show(flat.Design{}) {
			t.Errorf("P14.5: %q: error %d at %v", top, err, pos)
		}
	}
	if _, pos, err := elab.Elaborate(nil, "top"); err != api.ErrName || pos != (api.Pos{}) {
		t.Errorf("P14.5: error %d at %v", err, pos)
	}
}
