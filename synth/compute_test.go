package synth_test

import (
	"math/rand/v2"
	"slices"
	"strings"
	"testing"

	"sluicegate/bv"
	"sluicegate/flat"
	"sluicegate/net"
	"sluicegate/sample"
	"sluicegate/typed"
)

// TestP18_2Example: the example of the chapter.
func TestP18_2Example(t *testing.T) {
	d := design(t, "module top (input clk, input a, output reg [3:0] q); always @(posedge clk) if (a) q <= q + 1; endmodule")
	r := mustSynth(t, d)
	nodes := r.Net.Nodes
	next := nodes[r.Net.Regs[0].Next]
	if next.Kind != net.Mux || nodes[next.Args[0]].Kind != net.In || nodes[next.Args[2]].Kind != net.Reg {
		t.Fatalf("P18.2: %+v", nodes)
	}
	for _, x := range []struct{ a, q, next uint64 }{{0, 5, 5}, {1, 5, 6}, {1, 15, 0}, {0, 15, 15}} {
		list := r.Net.Eval(net.Values{Ins: []bv.Vec{vec(1, x.a)}, Regs: []bv.Vec{vec(4, x.q)}})
		if list[r.Net.Regs[0].Next] != vec(4, x.next) || list[r.Sigs[1]] != vec(4, x.q) || list[r.Sigs[0]] != vec(1, x.a) {
			t.Errorf("P18.2: %v: %v", x, list)
		}
	}
}

// TestP18_2AnyDesign compares netlists with the simulator.
func TestP18_2AnyDesign(t *testing.T) {
	pick := sample.Choice(rand.New(rand.NewPCG(18, 4)).IntN)
	var sum performed
	for range 2000 {
		d := pick.Design()
		r := mustSynth(t, d)
		for range 6 {
			p := mustCompute(t, d, r, pick.State(d), pick.Ins(d))
			sum = performed{sum.checks + p.checks, sum.fails + p.fails, sum.words + p.words, sum.registers + p.registers}
		}
	}
	if sum.checks < 3000 || sum.fails < 500 || sum.words < 1000 || sum.registers < 5000 {
		t.Errorf("P18.2: only %+v", sum)
	}
}

// mustComputeAll compares the netlist of a text with the simulator, for all values
// of its registers, words and inputs or, if there are too many, for many of them.
func mustComputeAll(t *testing.T, text string) {
	t.Helper()
	d := design(t, text)
	r := mustSynth(t, d)
	bits := 0
	for sig, x := range d.Sigs {
		if x.Words > 0 || slices.Contains(r.Regs, sig) || slices.Contains(d.Inputs, sig) {
			bits += x.Width * max(x.Words, 1)
		}
	}
	pick := sample.Choice(rand.New(rand.NewPCG(18, 5)).IntN)
	if bits > 11 {
		for range 2000 {
			mustCompute(t, d, r, pick.State(d), pick.Ins(d))
		}
		return
	}
	for n := range 1 << bits {
		state, ins := pick.State(d), []bv.Vec(nil)
		next := func(width int) bv.Vec {
			v := vec(width, uint64(n))
			n >>= width
			return v
		}
		for sig, x := range d.Sigs {
			for at := range x.Words {
				state.SetWord(sig, at, next(x.Width))
			}
			switch {
			case slices.Contains(r.Regs, sig):
				state.SetSig(sig, next(x.Width))
			case slices.Contains(d.Inputs, sig):
				ins = append(ins, next(x.Width))
			}
		}
		mustCompute(t, d, r, state, ins)
	}
}

// TestP18_2Ifs: what is assigned in branches, to registers, temps and nets.
func TestP18_2Ifs(t *testing.T) {
	for _, body := range []string{
		"if (a) q <= 1; else q <= 2;", "if (a == 3) q <= b; else if (a) q <= q + 1;", "q <= 1; if (a) q <= 2; if (b) q <= 3;",
		"if (a) begin q <= 1; if (b) q <= 2; else q[1] <= 1; end else q <= 3;", "if (a) q[0] <= 1; else q <= 2;", "if (a) q <= 2; else q[0] <= 1;",
		"if (a) if (b) q <= 1; else q <= 2; else if (b) q <= 3; else q <= 4;", "if (a) if (b) q <= 1; else q <= 2; else if (b) q <= 3;",
		"q <= 7; if (a) begin if (b) q <= 1; q[0] <= 0; q <= 2; q[1] <= b; end else begin q[a] <= 1; q <= 3; q[b] <= 0; end",
		"if (b) begin if (a) q <= 1; else q <= 2; end", "if (b) begin if (a) q <= 1; else q <= 2; end q[2] <= a;",
		"case (a) 0: q <= 5; 1, 2: q <= 6; default: q <= 7; endcase", "case (a) 0: q <= 5; 1: q[0] <= a; 3: ; endcase", "case (a) 0: q <= 5; 0: q <= 4; default: ; endcase",
		"if (a) q <= 1; else ; if (!a) q <= 2;", "if (a) ; else q <= 2;", "if (a) begin q <= 1; end else begin if (b) q <= 3; end", "q[0] <= 0; q[2:1] <= a; q[1] <= b;",
	} {
		mustComputeAll(t, "module top (input clk, input [1:0] a, input b, output reg [2:0] q); always @(posedge clk) begin "+body+" if (0) q <= q; end endmodule")
		temps := "module top (input clk, input [1:0] a, input b, output reg [2:0] q, output reg [2:0] r); always @(posedge clk) begin "
		mustComputeAll(t, temps+strings.ReplaceAll(body, "<= ", "= ")+" if (0) q = q; r <= q; p: assert (q != 2); end endmodule")
		net := "module top (input [1:0] a, input b, output reg [2:0] q, output [2:0] y); always @* begin q = a + b; "
		mustComputeAll(t, net+strings.ReplaceAll(body, "<= ", "= ")+" end assign y = ~q; endmodule")
	}
}

// TestP18_2Cones: a register that is assigned in all branches does not depend on
// what it was, nor does a net depend on anything else.
func TestP18_2Cones(t *testing.T) {
	for _, x := range []struct {
		body  string
		isOld bool
	}{
		{"if (a) q <= 1; else q <= 2;", false}, {"if (a) q <= 1;", true}, {"if (a) begin r <= 1; q <= 1; end else begin q <= 2; r <= 3; end", false},
		{"case (a) 0: q <= 5; 1: q <= 6; default: q <= a; endcase", false}, {"case (a) 0: q <= 5; 1: q <= 6; endcase", true}, {"if (a) q <= 1; else q[1] <= 0;", true},
		{"if (a) if (b) q <= 1; else q <= 2; else begin r <= 1; q <= 3; q[0] <= b; end", false}, {"if (a) if (b) q <= 1; else q <= 2; else r <= 3;", true},
		{"if (a) begin q <= 1; r <= 2; end else begin r <= 1; if (b) q <= 2; end", true},
	} {
		r := mustSynth(t, design(t, "module top (input clk, input [1:0] a, input b, output reg [2:0] q, output reg [2:0] r); always @(posedge clk) begin r <= 0; "+x.body+" end endmodule"))
		cone := r.Net.Cone(r.Net.Regs[0].Next)
		if isOld := slices.Contains(cone, r.Sigs[2]); isOld != x.isOld {
			t.Errorf("P18.2: %s: %+v", x.body, r.Net.Nodes)
		}
	}
}

// TestP18_2CombsWithoutADefault: nets that are assigned in all branches only.
func TestP18_2CombsWithoutADefault(t *testing.T) {
	for _, body := range []string{
		"if (a) q = 1; else q = 2;", "if (a) begin q = 1; r = q; end else begin q = 2; r = q + 1; end q = q ^ b;", "if (a) begin if (b) q = 1; else q = 3; end else q = 2;",
		"if (a) begin q[0] = 1; q[2:1] = b; end else begin q[1:0] = a; q[2] = 0; end", "if (b) q[0] = 1; q = 5; if (b) q[1] = 1;", "q[a] = 1; q = 2; q[a] = 1;",
		"if (a) q[a] = 1; if (b) q = 3; else begin q = 4; q[a] = q[0]; end", "case (a) 0: q = 7; 1: begin q = 1; q[2] = b; end default: q = a; endcase",
		"if (b) begin r = a; q = r; if (a) q = r + 1; end else begin r = 3; q = 3; end",
	} {
		for _, first := range []string{"", "r = 1; ", "r[1:0] = 2; r[2] = b; "} {
			mustComputeAll(t, "module top (input [1:0] a, input b, output reg [2:0] q, output reg [2:0] r, output [2:0] y); always @* begin "+first+"r = a; "+body+" end assign y = q + r; endmodule")
		}
	}
}

// TestP18_2Bits: bits with numbers that are not constant, in signals of many
// widths, some of which do not exist.
func TestP18_2Bits(t *testing.T) {
	for _, x := range []struct{ width, index string }{
		{"[0:0]", "[0:0]"}, {"[0:0]", "[2:0]"}, {"[1:0]", "[0:0]"}, {"[2:0]", "[1:0]"}, {"[2:0]", "[3:0]"}, {"[3:0]", "[1:0]"}, {"[4:0]", "[3:0]"}, {"[7:0]", "[3:0]"},
		{"[127:0]", "[7:0]"}, {"[127:0]", "[6:0]"}, {"[127:0]", "[127:0]"}, {"[3:0]", "[127:0]"}, {"[63:0]", "[31:0]"}, {"[64:0]", "[6:0]"},
	} {
		mustComputeAll(t, "module top (input clk, input "+x.index+" i, input v, output reg "+x.width+" q, output reg "+x.width+" y); always @(posedge clk) begin q[i] <= v; if (v) q[i + 1] <= 0; end always @* begin y = -1; y[i] = v; if (v) y[i ^ 1] = 0; end endmodule")
		mustComputeAll(t, "module top (input clk, input "+x.index+" i, input v, output reg r); reg "+x.width+" q; always @(posedge clk) begin q[i] = v; r <= q[i ^ 1]; end endmodule")
	}
}

// TestP18_2Wires: wires that are set bit by bit, in any order, and read before all
// of their bits are known.
func TestP18_2Wires(t *testing.T) {
	for _, text := range []string{
		"module top (input [3:0] a, output [3:0] y); assign y[3] = y[2] ^ a[3]; assign y[2] = y[1] ^ a[2]; assign y[1] = y[0] ^ a[1]; assign y[0] = a[0]; endmodule",
		"module top (input [3:0] a, output [3:0] y, output z); wire [3:0] w; assign z = w[2]; assign y = {w[1:0], w[3:2]}; assign w[1] = w[3]; assign w[3:2] = a[1:0] + w[0]; assign w[0] = a[3]; endmodule",
		"module top (input [3:0] a, output [1:0] y); wire [3:0] w; assign y[0] = &w[2:1]; assign w[3] = y[1]; assign w[2:0] = a; assign y[1] = ^w[2:0]; endmodule",
		"module top (input [127:0] a, output [127:0] y); assign y[127:64] = a[63:0] + y[63:0]; assign y[63:1] = a[126:64] ^ y[0]; assign y[0] = a[127]; endmodule",
	} {
		mustComputeAll(t, text)
	}
}

// TestP18_2WireStatements: a Wire with several statements, which no source has.
func TestP18_2WireStatements(t *testing.T) {
	in := ref(0, 4)
	bit := typed.Part(in, 0, 1)
	d := flat.Design{Sigs: sigs(3, 4), Inputs: []int{0}, Procs: []flat.Proc{
		proc(flat.Wire, part(flat.Set, 2, 3, typed.Part(ref(1, 4), 1, 1)), part(flat.Set, 2, 1, typed.Part(in, 1, 2)), part(flat.Set, 2, 2, bit)),
		proc(flat.Wire, branch(bit, []flat.Stmt{part(flat.Set, 1, 0, in)}, []flat.Stmt{part(flat.Set, 1, 2, typed.Part(in, 0, 2)), part(flat.Set, 1, 0, typed.Part(in, 2, 2))})),
		proc(flat.Wire, part(flat.Set, 2, 0, bit)),
	}}
	r := mustSynth(t, d)
	for n := range uint64(16) {
		mustCompute(t, d, r, nil, []bv.Vec{vec(4, n)})
	}
}

// TestP18_2Memories: words are written in order, and read as they were before the
// step.
func TestP18_2Memories(t *testing.T) {
	d := design(t, `module top (input clk, input [1:0] a, input [1:0] v, output reg [1:0] q); reg [1:0] m [0:2]; reg [1:0] o [0:0]; reg [1:0] t;
		always @(posedge clk) begin m[a] <= v; t = m[a]; if (v == t) m[t] <= 3; else begin m[0] <= m[v]; if (a) m[v] <= t; end q <= m[0]; o[a] <= q; end endmodule`)
	r := mustSynth(t, d)
	if n := names(r.Net.Mems, func(m net.Mem) string { return m.Name + show(len(m.Ports)) }); n != "m4 o1" {
		t.Errorf("P18.1: %s", n)
	}
	pick := sample.Choice(rand.New(rand.NewPCG(18, 6)).IntN)
	changed := 0
	for range 3000 {
		changed += mustCompute(t, d, r, pick.State(d), pick.Ins(d)).words
	}
	if changed < 2000 {
		t.Errorf("P18.2: only %d memories have changed", changed)
	}
	// Three writes to one word: the last one that is performed counts.
	d = design(t, "module top (input clk, input [2:0] a); reg [3:0] m [0:3]; always @(posedge clk) begin if (a[0]) m[1] <= 1; if (a[1]) m[1] <= 2; if (a[2]) m[1] <= 3; end endmodule")
	r = mustSynth(t, d)
	for n, want := range []int{9, 1, 2, 2, 3, 3, 3, 3} {
		before := []bv.Vec{vec(4, 8), vec(4, 9), vec(4, 10), vec(4, 11)}
		list := r.Net.Eval(net.Values{Ins: []bv.Vec{vec(3, uint64(n))}, Words: [][]bv.Vec{before}})
		if after := written(r.Net.Mems[0], before, list); after[1].Num(99) != want || after[0] != before[0] || after[2] != before[2] {
			t.Errorf("P18.2: %d: %v", n, after)
		}
	}
}

// TestP18_2Asserts: in branches, after temps were set, and in several processes.
func TestP18_2Asserts(t *testing.T) {
	mustComputeAll(t, `module top (input clk, input [1:0] a, input b); reg [1:0] t; reg [1:0] s;
		always @(posedge clk) begin assert (a); t = a + t; if (t[0]) begin assert (t == 3); if (b) assert (a < t); end else assert (b); end
		always @(posedge clk) begin if (b) s = 0; else assert (s != a); assert (s); s = s + 1; if (a[1]) assert (s); end endmodule`)
	mustComputeAll(t, "module top (input clk, input [3:0] a); always @(posedge clk) if (a) case (a[1:0]) 0: assert (a == 4); 1: if (a[3]) assert (a[2]); default: begin assert (a ^ 9); assert (0); assert (1); end endcase else assert (!a); endmodule")
}

// TestP18_2Hierarchy: modules, functions and loops together, for several cycles of
// the netlist alone.
func TestP18_2Hierarchy(t *testing.T) {
	for _, text := range []string{
		`module top (input clk, input [2:0] a, input b, output [3:0] y, output z); wire [3:0] w; wire c; count u (.clk(clk), .by(a), .n(w)); count #(.K(3)) v (.clk(clk), .by(w[2:0]), .n(y), .over(c)); assign z = c ^ b; endmodule
		 module count #(parameter K = 1) (input clk, input [2:0] by, output reg [3:0] n = 2, output over); always @(posedge clk) begin if (by) n <= n + by * K; ok: assert (n != 5); end assign over = n > 9; endmodule`,
		`module top (input clk, input [7:0] a, output reg [7:0] y, output reg [3:0] ones); integer i; function [7:0] turned; input [7:0] x; integer i; begin for (i = 0; i < 8; i = i + 1) turned[i] = x[7 - i]; end endfunction
		 always @* begin ones = 0; for (i = 0; i < 8; i = i + 1) if (a[i]) ones = ones + 1; end
		 always @(posedge clk) begin y <= turned(a ^ y); for (i = 0; i < 3; i = i + 1) if (ones == i) y[i] <= 1; p: assert (ones != 9); end endmodule`,
		`module top (input clk, input push, input pop, input [3:0] d, output [3:0] q, output full); reg [3:0] m [0:3]; reg [1:0] r = 0; reg [1:0] w = 0; reg [2:0] n = 0; assign q = m[r]; assign full = n == 4;
		 always @(posedge clk) begin if (push && !full) begin m[w] <= d; w <= w + 1; end if (pop && n != 0) r <= r + 1; case ({push && !full, pop && n != 0}) 2: n <= n + 1; 1: n <= n - 1; default: ; endcase fits: assert (n <= 4); end endmodule`,
		`module top (input clk, input rst, input go, output reg [1:0] s, output busy); assign busy = s != 0; always @(posedge clk) if (rst) s <= 0; else case (s) 0: if (go) s <= 1; 1: s <= 2; 2: s <= go ? 2 : 3; default: s <= 0; endcase
		 always @(posedge clk) if (!rst) legal: assert (s != 3 || busy); endmodule`,
		`module top (input clk, input signed [3:0] a, input [2:0] n, output signed [7:0] y, output reg signed [7:0] q); assign y = (a >>> n) * a - (a / (n + 1)) % 3; always @(posedge clk) q <= (q < a) ? q + a : {q[0], y[7:1]} ^ {8{a[3]}}; endmodule`,
	} {
		mustComputeAll(t, text)
	}
}

// TestP18_2FromTheStart: the registers begin with First, and several cycles are
// those of the simulator.
func TestP18_2FromTheStart(t *testing.T) {
	d := design(t, "module top (input clk, input a, output reg [3:0] q = 9, output reg [3:0] r = 6); reg [1:0] t = 1; always @(posedge clk) begin q <= q + r; t = t + a; r <= r ^ t; end endmodule")
	r := mustSynth(t, d)
	var regs []bv.Vec
	for _, x := range r.Net.Regs {
		regs = append(regs, x.First)
	}
	s := sample.Choice(func(int) int { return 0 }).State(d)
	for i, sig := range r.Regs {
		s.SetSig(sig, regs[i])
	}
	for cycle := range uint64(20) {
		ins := []bv.Vec{vec(1, cycle%3%2)}
		s.SetSig(d.Inputs[0], ins[0])
		mustCompute(t, d, r, s, ins)
		list := r.Net.Eval(net.Values{Ins: ins, Regs: regs})
		for i, x := range r.Net.Regs {
			regs[i] = list[x.Next]
			s.SetSig(r.Regs[i], regs[i])
		}
	}
	if q := regs[0].Num(99); q != wantAfter20(9, 6, 1) {
		t.Errorf("P18.2: q is %d", q)
	}
}

// wantAfter20 returns q after the 20 cycles of the test.
func wantAfter20(q, r, s int) int {
	for cycle := range 20 {
		s = (s + cycle%3%2) % 4
		q, r = (q+r)%16, r^s
	}
	return q
}

// TestP18_2EveryKind: each kind of expression, converted as it is.
func TestP18_2EveryKind(t *testing.T) {
	a, b := ref(0, 4), ref(1, 3)
	word := func(at typed.Expr) typed.Expr {
		return typed.Expr{Kind: typed.Word, Width: 5, Sig: 2, Args: []typed.Expr{at}}
	}
	list := []typed.Expr{
		typed.Num(vec(7, 93)), a, word(a), word(b), word(word(b)), {Kind: typed.Pick, Width: 1, Args: []typed.Expr{a, b}}, typed.Part(a, 1, 2), typed.Choose(b, a, typed.Num(vec(4, 6))),
		typed.Choose(typed.Truth(a), b, b), {Kind: typed.Cat, Width: 10, Args: []typed.Expr{b, a, b}}, {Kind: typed.Cat, Width: 3, Args: []typed.Expr{b}}, typed.Wide(b, 9, true), typed.Wide(b, 9, false),
	}
	for op := range bv.Zero + 1 {
		list = append(list, typed.One(op, a))
	}
	for op := range bv.Sle + 1 {
		list = append(list, typed.Two(op, a, typed.Wide(b, 4, false)))
	}
	d := flat.Design{Sigs: []typed.Sig{{Name: "a", Width: 4}, {Name: "b", Width: 3}, {Name: "m", Width: 5, Words: 6}}, Inputs: []int{0, 1}}
	for _, e := range list {
		sig := len(d.Sigs)
		d.Sigs = append(d.Sigs, typed.Sig{Width: e.Width}, typed.Sig{Width: e.Width})
		d.Procs = append(d.Procs, proc(flat.Wire, part(flat.Set, sig, 0, e)), proc(flat.Clocked, part(flat.Later, sig+1, 0, e)))
	}
	r := mustSynth(t, d)
	pick := sample.Choice(rand.New(rand.NewPCG(18, 7)).IntN)
	for n := range uint64(128) {
		mustCompute(t, d, r, pick.State(d), []bv.Vec{vec(4, n%16), vec(3, n/16)})
	}
}
