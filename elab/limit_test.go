package elab_test

import (
	"fmt"
	"strings"
	"testing"

	"sluicegate/api"
	"sluicegate/ast"
	"sluicegate/elab"
)

// repeat returns a text with the numbers from 0 on in place of #.
func repeat(count int, text string) string {
	var all strings.Builder
	for i := range count {
		all.WriteString(strings.ReplaceAll(text, "#", fmt.Sprint(i)))
	}
	return all.String()
}

func TestP14_5LimitOfSignals(t *testing.T) {
	ports := func(count int) string { return repeat(count, "input a#, ") }
	const regs = "reg r; reg [1:0] m [0:1]; reg s; always @(posedge clk) begin r <= 1; s <= r; end"
	d := built(t, "P14.5", "module top ("+ports(api.MaxSignals-3)+"input clk); "+regs+" endmodule")
	if len(d.Sigs) != api.MaxSignals {
		t.Errorf("P14.5: %d signals", len(d.Sigs))
	}
	built(t, "P14.5", "module top ("+ports(api.MaxSignals)+"input clk); endmodule")
	mustFail(t, api.ErrLimit, "module top ("+ports(api.MaxSignals-2)+"input clk); "+strings.Replace(regs, "reg s", mark+"reg s", 1)+" endmodule")
	mustFail(t, api.ErrLimit, "module top ("+ports(api.MaxSignals-1)+"input clk); "+strings.Replace(regs, "reg [", mark+"reg [", 1)+" endmodule")
	mustFail(t, api.ErrLimit, "module top ("+ports(api.MaxSignals)+"«input b); endmodule")
	mustFail(t, api.ErrLimit, "module top ("+ports(api.MaxSignals-1)+"output y, «input b); endmodule")
	mustFail(t, api.ErrTwice, "module top ("+ports(api.MaxSignals)+"«input a0); endmodule")
	const sub = " endmodule module s (input a, input b, «output c); assign c = a & b; endmodule"
	mustFail(t, api.ErrLimit, "module top ("+ports(api.MaxSignals)+"input clk); s u (.a(a0), .b(a1));"+sub)
	mustFail(t, api.ErrLimit, "module top ("+ports(api.MaxSignals-2)+"input clk); s u (.a(~a0), .b(~a1));"+sub)
	built(t, "P14.5", "module top ("+ports(api.MaxSignals-3)+"input clk); s u (.a(~a0), .b(~a1));"+strings.ReplaceAll(sub, mark, ""))
	mustFail(t, api.ErrLimit, "module top ("+ports(api.MaxSignals-4)+"input clk); genvar g; for (g = 0; g < 5; g = g + 1) begin : b «wire w; assign w = 1; end endmodule")
}

func TestP14_5LimitOfProcesses(t *testing.T) {
	assigns := func(count int) string {
		wires := fmt.Sprintf("wire [99:0] v; wire [%d:0] w; ", count-101)
		return wires + repeat(100, "assign v[#] = a; ") + repeat(count-100, "assign w[#] = a; ")
	}
	d := built(t, "P14.5", "module top (input a); "+assigns(api.MaxProcs)+" endmodule")
	if len(d.Procs) != api.MaxProcs {
		t.Errorf("P14.5: %d processes", len(d.Procs))
	}
	mustFail(t, api.ErrLimit, "module top (input a); wire x; "+assigns(api.MaxProcs)+" «assign x = 1; endmodule")
	mustFail(t, api.ErrLimit, "module top (input a, input clk); "+assigns(api.MaxProcs)+" «always @(posedge clk) ; endmodule")
	mustFail(t, api.ErrLimit, "module top (input a, output reg x); "+assigns(api.MaxProcs)+" «always @* x = a; endmodule")
	mustFail(t, api.ErrName, "module top (input a, output reg x); "+assigns(api.MaxProcs)+" always @* x = «no; endmodule")
	const sub = " endmodule module s (input b, output c); endmodule"
	built(t, "P14.5", "module top (input a); "+assigns(api.MaxProcs-1)+"s u (.b(a)); endmodule module s (input b, output c); assign c = b; endmodule")
	built(t, "P14.5", "module top (input a); "+assigns(api.MaxProcs-2)+"s u (.b(~a)); endmodule module s (input b, output c); assign c = b; endmodule")
	mustFail(t, api.ErrLimit, "module top (input a); "+assigns(api.MaxProcs)+"«s u (.b(~a));"+sub)
	mustFail(t, api.ErrLimit, "module top (input a); wire x; "+assigns(api.MaxProcs-1)+"«s u (.b(~a), .c(x));"+sub)
	mustFail(t, api.ErrLimit, "module top (input a); "+assigns(api.MaxProcs)+"s u (.b(a)); endmodule module s (input b, output c); «assign c = b; endmodule")
}

func TestP14_5LimitOfInstances(t *testing.T) {
	const sub = " endmodule module s (); endmodule module t (); s a (); s b (); endmodule module r #(parameter N = 0) (); if (N > 0) begin : g «r #(.N(N - 1)) u (); end endmodule"
	clean, _ := unmarked(sub)
	built(t, "P14.5", "module top (); "+repeat(api.MaxInst, "s u# (); ")+clean)
	mustFail(t, api.ErrLimit, "module top (); "+repeat(api.MaxInst, "s u# (); ")+"«s v ();"+clean)
	mustFail(t, api.ErrLimit, "module top (); "+repeat(api.MaxInst, "s u# (); ")+"if (1) begin : g «t v (); end"+clean)
	mustFail(t, api.ErrLimit, "module top (); genvar g; for (g = 0; g < 41; g = g + 1) begin : b «s u (); end"+clean)
	built(t, "P14.5", "module top (); genvar g; for (g = 0; g < 40; g = g + 1) begin : b s u (); end"+clean)
	built(t, "P14.5", "module top (); "+repeat(13, "t u# (); ")+"s v ();"+clean)
	mustFail(t, api.ErrLimit, "module top (); "+repeat(14, "t u# (); ")+" endmodule module s (); endmodule module t (); «s a (); s b (); endmodule")
	built(t, "P14.5", "module top (); r #(.N(39)) u ();"+clean)
	mustFail(t, api.ErrLimit, "module top (); r #(.N(40)) u ();"+sub)
	mustFail(t, api.ErrLimit, "module top (); «top u (); endmodule")
	mustFail(t, api.ErrLimit, "module top (); a u (); endmodule module a (); b u (); endmodule module b (); «a u (); endmodule")
	mustFail(t, api.ErrPort, "module top (); "+repeat(api.MaxInst, "s u# (); ")+"«v v (); endmodule module s (); endmodule module v (input a); endmodule")
	mustFail(t, api.ErrName, "module top (); "+repeat(api.MaxInst, "s u# (); ")+"«no v (); endmodule module s (); endmodule")
}

// TestP14_5LimitOfStatements: loops of 62 times 64 statements and 32 others.
func TestP14_5LimitOfStatements(t *testing.T) {
	const head = "module top (input clk, input [1:0] a, output y, output z); integer i; integer j; reg r; reg q; assign y = r; assign z = q; always @* q = a; always @(posedge clk) begin "
	const most = "for (i = 0; i < 62; i = i + 1) for (j = 0; j < 64; j = j + 1) r <= a; " // 3968, and 3 in head
	rest := func(count int) string { return repeat(count, "r <= #; ") }
	const end = " end endmodule"
	built(t, "P14.5", head+most+rest(29)+end)
	for _, s := range []string{"«r <= 1;", "«assert (a);", "«p: assert (a);", "«if (a) ;", "«if (a) r <= 1;", "begin ; begin «r <= 1; end end", "«case (a) 0: ; endcase", "for (i = 0; i < 1; i = i + 1) «r <= a;"} {
		mustFail(t, api.ErrLimit, head+most+rest(29)+s+end)
	}
	for _, s := range []string{"if (a) «r <= 1;", "if (a) ; else «r <= 1;", "«case (a) 0: ; 1: ; endcase", "case (a) 0: «r <= 1; endcase", "case (a) 0: ; default: «r <= 1; endcase", "for (i = 0; i < 2; i = i + 1) «r <= a;"} {
		mustFail(t, api.ErrLimit, head+most+rest(28)+s+end)
	}
	for _, s := range []string{"if (a) r <= 1;", "case (a) 0: ; 1: ; endcase", "case (a) default: begin r <= 1; r <= 2; end endcase", "begin ; r <= 1; ; assert (a); end", "for (i = 0; i < 2; i = i + 1) r <= a; for (i = 0; i < 64; i = i + 1) ;"} {
		built(t, "P14.5", head+most+rest(27)+s+end)
		built(t, "P14.5", head+most+rest(27)+"begin end ; for (i = 0; i < 64; i = i + 1) begin end case (a) default: ; endcase "+s+end)
	}
	mustFail(t, api.ErrLimit, head+most+rest(29)+" end wire w; «assign w = 1; endmodule")
	mustFail(t, api.ErrLimit, head+most+rest(29)+" end «s u (.b(~a)); endmodule module s (input b); endmodule")
	mustFail(t, api.ErrLimit, head+most+rest(29)+" end reg w; always @* «w = 1; endmodule")
	mustFail(t, api.ErrName, head+most+rest(29)+" r <= «no; r <= 1;"+end)
	mustFail(t, api.ErrLimit, head+"for (i = 0; i < 64; i = i + 1) for (j = 0; j < 64; j = j + 1) «r <= a;"+end)
	// The statements of functions are not statements of the design.
	built(t, "P14.5", "module top (input [1:0] a, output y); function f; input b; integer i; integer j; for (i = 0; i < 64; i = i + 1) for (j = 0; j < 64; j = j + 1) f = b; endfunction assign y = f(a); endmodule")
}

// TestP14_5EndlessLoops: without statements, nested loops have no other limit
// than the time that they take.
func TestP14_5EndlessLoops(t *testing.T) {
	const depth = 30
	for _, text := range []string{
		"integer i; always @* " + strings.Repeat("for (i = 0; i < 64; i = i + 1) ", depth) + ";",
		"function f; input b; integer i; " + strings.Repeat("for (i = 0; i < 64; i = i + 1) ", depth) + "f = b; endfunction",
		"genvar g; " + strings.Repeat("for (g = 0; g < 64; g = g + 1) begin : b ", depth) + strings.Repeat("end ", depth),
	} {
		list := source(t, "module top (); "+text+" endmodule")
		if pos, err := errorOf(list); err != api.ErrLimit || pos == (api.Pos{}) {
			t.Errorf("P14.5: error %d at %v: %s", err, pos, text)
		}
	}
	three := "for (i = 0; i < 64; i = i + 1) for (j = 0; j < 64; j = j + 1) for (k = 0; k < 64; k = k + 1) "
	built(t, "P14.5", "module top (output reg y); integer i; integer j; integer k; always @* begin y = 1; "+three+"; end endmodule")
	built(t, "P14.5", "module top (output y); function f; input b; integer i; integer j; integer k; "+three+"f = b; endfunction assign y = f(1); endmodule")
}

// TestP14_5DeepTrees: the depth of a tree is not limited.
func TestP14_5DeepTrees(t *testing.T) {
	const depth = 3000
	mods := source(t, "module top (input a, input clk, output reg y); always @(posedge clk) y <= a; if (1) begin : g localparam N = 1; end endmodule")
	always, block := &mods[0].Items[0], &mods[0].Items[1]
	condition := []ast.Expr{{Kind: ast.Name, Text: "a"}}
	for range depth {
		branch := ast.Stmt{Kind: ast.If, Pos: always.Pos, Exprs: condition, Body: []ast.Stmt{always.Body[0], {Kind: ast.Null}}}
		always.Body = []ast.Stmt{{Kind: ast.Block, Pos: always.Pos, Body: []ast.Stmt{branch}}}
		inner := *block
		block.Items = []ast.Item{{Kind: ast.GenBlock, Text: "h", Pos: block.Pos, Items: []ast.Item{inner}}}
	}
	if d, pos, err := elab.Elaborate(mods, "top"); err != api.OK || len(d.Procs) != 1 {
		t.Errorf("P14.5: error %d at %v", err, pos)
	}
}
