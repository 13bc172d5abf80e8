package elab_test

import (
	"testing"

	"sluicegate/api"
	"sluicegate/ast"
	"sluicegate/elab"
)

// errorOf returns the error of the module top.
func errorOf(mods []ast.Module) (api.Pos, api.Errno) {
	_, pos, err := elab.Elaborate(mods, "top")
	return pos, err
}

func TestP14_5Examples(t *testing.T) {
	mustFailIn(t, api.ErrDrive, "input a, output y", "assign y = a; «wire w;", "assign y = a; «assign y = a;", "assign y = a; wire v; assign v = a; «assign v = y;")
	mustFailIn(t, api.ErrLoop, "input a, output y", "«assign y = y;")
	mustFailIn(t, api.ErrName, "input a, output y", "«no u ();", "assign «q = a;")
	mustFailIn(t, api.ErrLimit, "input a, output y", "«top u (.a(a), .y(y));")
	mustFail(t, api.ErrName, "module top (input a, output y); assign y = «z; endmodule")
	mustFail(t, api.ErrLoop, "module top (output y); wire w; «assign y = w; assign w = y; endmodule")
	mustFail(t, api.ErrRace, "module top (input clk, output reg q); reg t; always @(posedge clk) t = q; «always @(posedge clk) q <= t; endmodule")
}

// TestP14_5Names: a name must be declared before its use.
func TestP14_5Names(t *testing.T) {
	mustFailIn(t, api.ErrName, "input a, input clk, output y, output reg z",
		"assign y = «w; wire w;", "assign «w = a; wire w;", "wire [«N:0] w; localparam N = 1;", "localparam N = «M; localparam M = 1;", "localparam N = «N;", "wire [«a:0] w;",
		"assign y = «f(a); function f; input b; f = b; endfunction", "if (1) begin : g wire w; assign w = a; end assign y = «w;",
		"if (1) begin : g localparam N = 1; end assign y = «N;", "genvar g; for (g = 0; g < 1; g = g + 1) begin : b end assign y = «g;",
		"integer i; assign y = «i;", "integer i; always @* begin for (i = 0; i < 1; i = i + 1) z = a; z = «i; end", "assign y = «clk;", "always @* z = «clk;",
		"assign «clk = a;", "integer i; always @* «i = 1;", "genvar g; assign «g = 1;", "s u (.b(«w)); wire w; endmodule module s (input b);",
		"s u (.b(a[«N])); endmodule module s (input b); localparam N = 0;", "s u (.b(a)); endmodule module s (input b); assign «a = b;",
		"s #(.N(«M)) u (); endmodule module s #(parameter N = 1, parameter M = 2) ();", "s u (); endmodule module s #(parameter N = «M, parameter M = 2) ();",
		"s u (); endmodule module s (output [«N:0] w); localparam N = 1;", "if («N) begin : b end", "genvar g; for (g = «a; g < 1; g = g + 1) begin : b end",
		"always @* z = «q;", "always @* «q = a;", "always @* if («q) z = 1;", "always @* case («q) 0: z = 1; endcase", "always @* case («q) default: z = 1; endcase",
		"always @* case (a) a, «q: z = 1; endcase", "always @* case (a) 0: z = 1; default: z = «q; endcase", "always @(posedge clk) assert («q);", "always @(posedge clk) z <= «q;",
		"reg [1:0] m [0:3]; always @(posedge clk) m[«q] <= 1;", "reg [1:0] v; always @* v[«q] = 1;", "reg r = «q;", "reg r = «a;", "assign y = a; s u (.b(a), .c(«q)); endmodule module s (input b, output c);",
	)
	mustFailIn(t, api.ErrName, "input a, output reg z",
		"always @* «for (i = 0; i < 1; i = i + 1) z = a;", "genvar i; always @* «for (i = 0; i < 1; i = i + 1) z = a;", "localparam i = 1; always @* «for (i = 0; i < 1; i = i + 1) z = a;",
		"wire i; always @* «for (i = 0; i < 1; i = i + 1) z = a;", "always @* «for (i = no; i < 1; i = i + 1) z = a;", "integer i; always @* for (i = «no; i < 1; i = i + 1) z = a;",
		"integer i; always @* for (i = 0; i < «a; i = i + 1) z = a;", "integer i; always @* for (i = 0; i < 1; i = «no) z = a;", "integer i; always @* for (i = «i; i < 1; i = i + 1) z = a;",
		"integer i; if (1) begin : g genvar i; always @* «for (i = 0; i < 1; i = i + 1) z = a; end",
		"«for (i = 0; i < 1; i = i + 1) begin : g end", "integer i; «for (i = 0; i < 1; i = i + 1) begin : g end", "«for (a = 0; a < 1; a = a + 1) begin : g end",
		"genvar i; if (1) begin : h integer i; «for (i = 0; i < 1; i = i + 1) begin : g end end", "genvar i; for (i = 0; i < «j; i = i + 1) begin : g end",
		"genvar i; for (i = 0; i < 1; i = «j) begin : g end",
	)
}

func TestP14_5Twice(t *testing.T) {
	for _, first := range []string{"wire x;", "reg x;", "localparam x = 1;", "integer x;", "genvar x;", "function x; input b; x = b; endfunction", "reg [1:0] x [0:1];"} {
		mustFailIn(t, api.ErrTwice, "input a, input clk, output reg y",
			first+" «wire x;", first+" «reg signed [3:0] x;", first+" «localparam x = 1;", first+" «integer x;", first+" «genvar x;", first+" «function x; input b; x = b; endfunction",
			"wire q; if (1) begin : g "+first+" wire z; «wire x; end", "genvar g; for (g = 0; g < 1; g = g + 1) begin : b "+first+" «integer x; end",
		)
		mustFail(t, api.ErrTwice, "module top (input a, input x); «"+first+" endmodule")
		mustFail(t, api.ErrTwice, "module top #(parameter x = 1) (input a); «"+first+" endmodule")
	}
	mustFail(t, api.ErrTwice, "module top (input a, «output a); endmodule")
	mustFail(t, api.ErrTwice, "module top (input clk, «input clk); endmodule")
	mustFail(t, api.ErrTwice, "module top (input clk, output [1:0] y, «output [1:0] clk); endmodule")
	mustFail(t, api.ErrTwice, "module top (input clk); «wire clk; endmodule")
	mustFail(t, api.ErrTwice, "module top #(parameter clk = 1) («input clk); endmodule")
	mustFail(t, api.ErrTwice, "module top #(parameter a = 1, «parameter a = 1) (); endmodule")
	mustFail(t, api.ErrTwice, "module top #(parameter a = 1) («input a); endmodule")
	mustFail(t, api.ErrTwice, "module top (); s u (.a(1'd1)); endmodule module s (input a, «input a); endmodule")
	mustFailIn(t, api.ErrTwice, "input a",
		"function f; «input f; f = 1; endfunction", "function f; «reg f; f = 1; endfunction", "function f; «integer f; f = 1; endfunction", "function f; input b; «input b; f = 1; endfunction",
		"function f; input b; «reg b; f = 1; endfunction", "function f; reg b; input c; «integer b; f = 1; endfunction", "function f; integer b; «integer b; f = 1; endfunction",
	)
	mustFailIn(t, api.ErrTwice, "input [1:0] a, output reg y",
		"always @* «case (a) default: y = 0; default: y = 1; endcase", "always @* «case (a) default: y = 0; 1: y = 1; default: y = 1; endcase", "always @* if (a) y = 1; else «case (a) 0: y = 0; default: ; default: ; endcase",
		"function f; input b; «case (b) default: f = 0; default: f = 1; endcase endfunction", "always @* «case (a) default: y = 0; default: y = no; endcase",
	)
	built(t, "P14.5", "module top (input a); function f; input a; reg b; f = a; endfunction wire b; assign b = a; if (1) begin : g wire a; assign a = b; wire b; assign b = a; end endmodule")
}

func TestP14_5Ranges(t *testing.T) {
	for _, x := range []string{"[128:0]", "[0:1]", "[1:1]", "[-1:0]", "[2147483647:0]", "[- 2147483647 - 1:0]", "[7:-1]", "[0:-1]", "[200:1]", "[K:0]", "[0:K]"} {
		mustFailIn(t, api.ErrRange, "input a", "localparam K = 128; «wire "+x+" w;", "localparam K = 128; «reg signed "+x+" w;", "localparam K = 128; «reg "+x+" w [0:3];", "localparam K = 128; «reg "+x+" w = 1;",
			"localparam K = 128; «function "+x+" f; input b; f = b; endfunction", "localparam K = 128; function f; «input "+x+" b; f = b; endfunction", "localparam K = 128; function f; input b; «reg "+x+" c; f = b; endfunction",
			"s u (); endmodule module s #(parameter K = 128) («output "+x+" y);")
		mustFail(t, api.ErrRange, "module top #(parameter K = 128) (input b, «input "+x+" a); endmodule")
	}
	for _, x := range []string{"[0:64]", "[1:2]", "[3:0]", "[0:-1]", "[-1:0]", "[-1:-1]", "[0:K]", "[0:2147483647]"} {
		mustFailIn(t, api.ErrRange, "input a", "localparam K = 64; «reg [3:0] m "+x+";")
	}
	built(t, "P14.5", "module top #(parameter K = 127) (input clk, input [127:0] a, input [0:0] b, input [K:0] c); reg [127:0] m [0:63]; reg [0:0] n [0:0]; endmodule")
	mustFailIn(t, api.ErrRange, "input [3:0] a, output [3:0] y, output reg [3:0] z",
		"assign «y[4] = a;", "assign «y[-1] = a;", "assign «y[4:0] = a;", "assign «y[0:1] = a;", "assign «y[1:-1] = a;", "always @* «z[4] = a;", "always @* «z[9:8] = a;", "assign y = «a[4];", "always @* z = «a[4:1];",
		"always @* if («a[4]) z = 1;", "function f; input b; «f[1] = b; endfunction", "function [1:0] f; input b; «f[2:1] = b; endfunction", "function f; input b; reg [3:0] c; «c[0:1] = b; endfunction",
		"function f; input b; f = «b[1]; endfunction", "localparam N = «1 / 0;", "wire [«1 << 40:0] w;", "wire [3:0] w; assign w = {«0 {a}};", "integer i; always @* for (i = 1; i; i = «i * 65536 * 65536) z = a;",
		"s u (.b(«a[7])); endmodule module s (input b);", "s u (.b(«y[7])); endmodule module s (output b);", "s #(.N(«1 % 0)) u (); endmodule module s #(parameter N = 1) ();",
	)
}

func TestP14_5Constants(t *testing.T) {
	mustFailIn(t, api.ErrConst, "input a, output reg y",
		"wire [«{1'b1}:0] w;", "localparam N = «& 1;", "reg r = «a[0];", "reg [3:0] m [0:«f(1)];", "genvar g; for (g = 0; «$signed(g); g = g + 1) begin : b end", "if («|1) begin : b end",
		"integer i; always @* for (i = 0; i < 1; i = «~|i) y = a;", "s #(.N(«{2 {1'b1}})) u (); endmodule module s #(parameter N = 1) ();",
	)
	mustFailIn(t, api.ErrWidth, "input [127:0] a, output [127:0] y", "assign y = «{a, a};", "assign y = 1 + «{a, 1'b1};")
}

// TestP14_5Targets: what each kind of process must not set.
func TestP14_5Targets(t *testing.T) {
	const items = "wire w; reg r; reg [1:0] m [0:3]; localparam N = 1; function f; input b; f = b; endfunction integer i; wire [1:0] ww; reg [1:0] rr; "
	const ports = "input clk, input a, input [1:0] aa, output y, output reg z"
	for _, text := range []string{"«a = 1", "«aa[0] = 1", "«aa[1:0] = 1", "«aa[a] = 1"} {
		mustFailIn(t, api.ErrDrive, ports, items+"assign "+text+";", items+"always @* "+text+";", items+"always @(posedge clk) begin r <= 1; "+text+"; end", items+"always @(posedge clk) if (a) "+text[:len(text)-3]+"<= 1;")
	}
	for _, name := range []string{"r", "z", "rr[0]", "rr[1:0]", "rr[a]", "m", "m[0]", "m[a]", "m[1:0]", "N", "N[0]", "f"} {
		mustFailIn(t, api.ErrKind, ports, items+"assign «"+name+" = 1;")
	}
	for _, name := range []string{"w", "y", "ww[0]", "ww[1:0]", "ww[a]", "m", "m[1:0]", "N", "N[0]", "N[1:0]", "f", "f[0]"} {
		mustFailIn(t, api.ErrKind, ports, items+"always @* «"+name+" = 1;", items+"always @(posedge clk) «"+name+" <= 1;", items+"always @(posedge clk) if (a) begin end else «"+name+" = 1;")
	}
	mustFailIn(t, api.ErrKind, ports, items+"always @* for (i = 0; i < 1; i = i + 1) «i = 2;", "genvar g; for (g = 0; g < 1; g = g + 1) begin : b assign «g = 1; end")
	mustFailIn(t, api.ErrKind, ports, items+"assign y = «m;", items+"assign y = «f;", items+"assign y = «N[0];", items+"assign y = «a(1);", items+"s u (.b(«m)); endmodule module s (input b);")
	mustFail(t, api.ErrDrive, "module top (input a); wire w; s u (.b(w)); assign w = a; endmodule module s (input b); assign «b = 1; endmodule")
	mustFail(t, api.ErrDrive, "module top (input a); s u (.b(a)); endmodule module s (input b); always @* «b = 1; endmodule")
}

func TestP14_5Instances(t *testing.T) {
	const rest = " endmodule module s #(parameter K = 1) (input a, input [1:0] b, output y);  localparam L = 2; wire w; assign w = a; assign y = b; endmodule module c (input clk, input d);"
	for want, list := range map[api.Errno][]string{
		api.ErrPort: {
			"«s u ();", "«s u (.a(p));", "«s u (.b(q), .y(y));", "s u («.a(), .b(q));", "s u (.b(q), «.a());", "s u (.a(p), .b(q), «.a(p));", "s u (.a(p), .b(q), .y(), «.y(y));",
			"s u (.a(p), .b(q), «.z(p));", "s u («.w(p), .a(p), .b(q));", "s u («.K(1), .a(p), .b(q));", "s u («.clk(clk), .a(p), .b(q));", "s #(«.L(1)) u (.a(p), .b(q));", "s #(.K(1), «.K(2)) u (.a(p), .b(q));",
			"s #(«.a(1)) u (.a(p), .b(q));", "s #(«.K()) u (.a(p), .b(q));", "«c u (.d(p));", "c u («.clk(), .d(p));", "c u («.clk(p), .d(p));", "c u («.clk(clk[0]), .d(p));", "c u («.clk(~clk), .d(p));", "c u (.clk(clk), .d(p), «.clk(clk));",
			"if (1) begin : g wire clk; assign clk = p; c u («.clk(clk), .d(p)); end", "s u («.z(no), .a(p), .b(q));",
		},
		api.ErrName: {"«t u ();", "s u (.a(«no), .b(q));", "s u (.a(p), .b(q), .y(«no));", "«u s (.a(p), .b(q));", "s u (.a(«clk), .b(q));", "s #(.K(«p)) u (.a(p), .b(q));", "«t u (.a(no));", "s u (.a(«no), .a(p));"},
		api.ErrKind: {
			"s u (.a(p), .b(q), .y(«r));", "s u (.a(p), .b(q), .y(«z));", "s u (.a(p), .b(q), .y(«N));", "s u (.a(p), .b(q), .y(«{y}));", "s u (.a(p), .b(q), .y(«y + 1));", "s u (.a(p), .b(q), .y(«1));", "s u (.a(p), .b(q), .y(«$signed(y)));", "s u (.a(p), .b(q), .y(«m[0]));",
			"s u (.a(p), .b(q), .y(«m));", "s u (.a(«m), .b(q));", "s u (.a(«f), .b(q));",
		},
		api.ErrDrive: {"s u (.a(p), .b(q), .y(«p));", "s u (.a(p), .b(q), .y(«q[0]));"},
	} {
		for _, x := range list {
			mustFail(t, want, "module top (input clk, input p, input [1:0] q, output y, output reg z); reg r; reg [1:0] m [0:1]; localparam N = 1; function f; input b; f = b; endfunction "+x+rest+" endmodule")
		}
	}
	mustFail(t, api.ErrPort, "module top (input d); c u («.clk(clk), .d(d)); endmodule module c (input clk, input d); endmodule")
	mustFail(t, api.ErrPort, "module top (input [1:0] clk, input d); c u («.clk(clk), .d(d)); endmodule module c (input clk, input d); endmodule")
	mustFail(t, api.ErrPort, "module top (output clk, input d); assign clk = d; c u («.clk(clk), .d(d)); endmodule module c (input clk, input d); endmodule")
	mustFail(t, api.ErrName, "module top (input clk); c u (.clk(«clk)); endmodule module c (input [0:0] clk); endmodule")
}

func TestP14_5Clocks(t *testing.T) {
	mustFail(t, api.ErrKind, "module top (input clk, input c, output reg y); «always @(posedge c) y <= 1; endmodule")
	mustFail(t, api.ErrKind, "module top (input clk, output reg y); «always @(posedge no) y <= no; endmodule")
	mustFail(t, api.ErrKind, "module top (input c, output reg y); «always @(posedge clk) y <= 1; endmodule")
	mustFail(t, api.ErrKind, "module top (input [0:0] clk, output reg y); «always @(posedge clk) y <= 1; endmodule")
	mustFail(t, api.ErrKind, "module top (output reg y); wire clk; assign clk = 1; «always @(posedge clk) y <= 1; endmodule")
	mustFail(t, api.ErrKind, "module top (input clk, output reg y); if (1) begin : g wire clk; assign clk = 1; «always @(posedge clk) y <= 1; end endmodule")
	mustFail(t, api.ErrKind, "module top (input clk, output y); s u (.y(y)); endmodule module s (output reg y); «always @(posedge clk) y <= 1; endmodule")
}

func TestP14_5Functions(t *testing.T) {
	const ports = "input clk, input [3:0] a, output [3:0] y"
	mustFailIn(t, api.ErrKind, ports,
		"function f; input b; «f <= b; endfunction", "function f; input b; «assert (b); endfunction", "function f; input b; «p: assert (no); endfunction", "function f; input b; «no <= no; endfunction", "function f; input b; if (b) begin f = b; «f <= 1; end endfunction",
		"function f; input b; case (b) 0: f = 1; 1: «assert (b); endcase endfunction", "function [3:0] f; input b; «f[b] = 1; endfunction", "function [3:0] f; input [1:0] b; if (b) «f[b + 1] = 1; endfunction",
		"function [3:0] f; input b; «f[no] = 1; endfunction", "function [3:0] f; input b; «f[1 / 0] = 1; endfunction", "localparam N = 1; function f; input b; «N = 1; endfunction", "localparam N = 1; function f; input b; «N[0] = 1; endfunction",
		"function g; input b; g = b; endfunction function f; input b; «g = b; endfunction", "function f; input b; f = «f(b); endfunction", "function f; input b; f = «b(1); endfunction",
		"function f; input b; integer i; for (i = 0; i < 1; i = i + 1) «i = 1; endfunction",
	)
	mustFailIn(t, api.ErrName, ports,
		"function f; input b; f = «a; endfunction", "function f; input b; «y = b; endfunction", "wire w; function f; input b; f = b & «w; endfunction", "reg [1:0] m [0:1]; function f; input b; f = «m[0]; endfunction",
		"function f; input b; f = «g(b); endfunction function g; input b; g = b; endfunction", "function f; input b; «c = b; endfunction", "function f; input b; «c[b] = b; endfunction", "function f; input b; «c[no] = b; endfunction",
		"function f; input b; f = «c; endfunction", "function [«b:0] f; input b; f = b; endfunction", "function f; input b; reg [«b:0] c; f = b; endfunction", "function f; input N; reg [«N:0] c; f = N; endfunction",
		"integer i; function f; input b; «for (i = 0; i < 1; i = i + 1) f = b; endfunction", "function f; input b; «for (b = 0; b < 1; b = b + 1) f = b; endfunction", "function f; input b; integer i; for (i = 0; i < «b; i = i + 1) f = b; endfunction",
		"function f; input b; integer i; for (i = «i; i < 1; i = i + 1) f = b; endfunction", "function f; input b; f = «clk; endfunction", "function f; input b; f = b; endfunction assign y = f(«b);", "genvar g; function f; input b; f = «g; endfunction",
		"if (1) begin : g function f; input b; f = b; endfunction end assign y = «f(a);", "function f; input b; f[0:«c] = b; endfunction", "function f; input b; case («c) default: f = b; endcase endfunction",
	)
	mustFailIn(t, api.ErrPort, ports, "function f; input b; f = b; endfunction assign y = «f(a, a);", "function f; input b; input c; f = b; endfunction assign y = «f(a);", "function f; reg b; f = b; endfunction assign y = «f(a);")
	mustFailIn(t, api.ErrLimit, ports, "function f; input b; integer i; «for (i = 0; i < 65; i = i + 1) f = b; endfunction")
	mustFailIn(t, api.ErrLimit, ports, "function f; input b; integer i; integer j; for (i = 0; i < 64; i = i + 1) «for (j = 0; j < 2; j = j) f = b; endfunction")
	built(t, "P14.5", "module top (input a, output [3:0] y); genvar g; for (g = 0; g < 4; g = g + 1) begin : b function f; input c; f = c ^ g; endfunction assign y[g] = f(a); end endmodule")
}

// TestP14_5Analysis: the errors of layer 13, which come after all others.
func TestP14_5Analysis(t *testing.T) {
	const ports = "input clk, input a, input [1:0] aa, output reg y"
	mustFailIn(t, api.ErrKind, ports,
		"reg r; «always @* begin y = a; r <= a; end", "«always @* begin y = a; p: assert (a); end", "reg [1:0] m [0:1]; always @* y = a; «always @(posedge clk) m[0] = 1;", "reg [1:0] m [0:1]; «always @* begin y = a; m[0] = 1; end",
		"always @* y = a; wire [1:0] w; «assign w[a] = 1;", "always @* y = a; wire [1:0] w; s u («.z(w[a])); endmodule module s (output z); assign z = 1;", "always @* y = a; «reg r = 1; always @* r = a;",
		"always @* y = a; s u (); endmodule module s («output reg z = 1); always @* z = 0;",
	)
	mustFailIn(t, api.ErrDrive, ports,
		"«reg r; always @* y = a;", "always @* y = a; wire w; assign w = a; «assign w = a;", "always @* y = a; «always @* y = a;", "always @* y = a; «always @(posedge clk) y <= a;", "always @* y = a; «wire [1:0] w; assign w[0] = a;",
		"always @* y = a; wire w; s u (.z(w)); s v («.z(w)); endmodule module s (output z); assign z = 1;", "always @* y = a; wire w; assign w = a; s u («.z(w)); endmodule module s (output z); assign z = 1;",
		"always @* y = a; wire w; s u (.z(w)); «assign w = 0; endmodule module s (output z); assign z = 1;", "always @* y = a; s u (); endmodule module s («output z);", "always @* y = a; s u (); s v (); endmodule module s («output z);",
	)
	mustFail(t, api.ErrDrive, "module top (input a, «output y); endmodule")
	mustFailIn(t, api.ErrLatch, ports, "«always @* if (a) y = 1;", "reg [1:0] r; always @* y = a; «always @* r[0] = a;", "«always @* begin y = y; end")
	mustFailIn(t, api.ErrRace, ports, "reg t; always @(posedge clk) t = a; «always @(posedge clk) y <= t;", "«always @(posedge clk) begin y = a; y <= a; end", "reg t; «always @* y = t; always @(posedge clk) t = a;")
	mustFailIn(t, api.ErrLoop, ports, "wire w; «assign w = y; always @* y = w;", "always @* y = a; wire w; s u (.b(~w), .z(w)); endmodule module s (input b, output z); «assign z = b;", "always @* y = a; wire w; s u (.b(w), .z(w)); endmodule module s (input b, output z); «assign z = b;")
	mustFailIn(t, api.ErrName, ports, "wire w; assign w = w; assign «y2 = 1;", "assign «no = 1; wire w;")
	built(t, "P14.5", "module top (input a, output [1:0] y); s u (.b(y[0]), .z(y[1])); assign y[0] = a; endmodule module s (input b, output z); assign z = b; endmodule")
}

// TestP14_5TheFirstErrorIsReturned: in the order of the tree, and parts before
// the whole.
func TestP14_5TheFirstErrorIsReturned(t *testing.T) {
	const ports = "input clk, input a, output reg y"
	mustFailIn(t, api.ErrName, ports,
		"assign «n1 = n2;", "wire w; assign w = «n1; assign n2 = 1;", "assign «n1 = a; wire a;", "wire [200:«n1] w;", "reg [200:0] r = «n1;", "reg [200:0] m [0:«n1];", "wire a2; reg [«n1:0] a2;", "localparam a = «n1;",
		"always @* begin y = «n1; n2 = 1; end", "always @* if («n1) n2 = 1; else n3 = 1;", "always @* if (a) «n2 = 1; else n3 = 1;", "always @* case («n1) n2: n3 = 1; endcase", "always @* case (a) «n2: n3 = 1; n4: y = 0; endcase",
		"always @* case (a) 0: «n3 = 1; n4: y = 0; endcase", "always @* case (a) default: «n3 = 1; n4: y = 0; endcase", "always @* case (a) default: y = «n3; default: y = 0; endcase", "always @* «n1[0] = n2;", "always @* n1[«n2] = n3;",
		"s u (.b(«n1)); endmodule module s (input b); assign n2 = 1;", "s u (.b(a)); assign n1 = 1; endmodule module s (input b); assign «n2 = 1;", "s u (.b(«n1), .c(n2)); endmodule module s (input c, input b);", "s #(.K(«n1)) u (.c(n2)); endmodule module s #(parameter K = 1) (input c);",
		"if («n1) begin : g assign n2 = 1; end", "genvar g; for (g = 0; g < 2; g = g + 1) begin : b wire [1:0] w; assign w[g] = a; assign w[1 - g] = «n1; assign n2 = 1; end", "always @* begin y <= a; y = «n1; end",
		"function [«n1:0] f; input [n2:0] b; f = n3; endfunction", "function f; input [«n2:0] b; f = n3; endfunction", "function f; input f2; begin f = «n3; f <= n4; end endfunction", "wire f; function f; input b; f = «n1; endfunction",
	)
	mustFailIn(t, api.ErrRange, ports, "«wire [200:0] a;", "reg r; «reg [0:1] r = 1;", "wire w; assign «w[1] = n1;", "assign «a[1] = 1;", "always @* «a[1:0] = 1;")
	mustFailIn(t, api.ErrTwice, ports, "«wire a; wire [200:0] b;", "always @* «case (a) default: y = 0; default: y = 1; endcase assign n1 = 1;")
	mustFailIn(t, api.ErrDrive, ports, "assign «a = n1;")
	mustFailIn(t, api.ErrKind, ports, "assign «y = n1;", "«always @(posedge a) y <= n1;", "function f; input b; «f[b] = n1; endfunction")
	mustFailIn(t, api.ErrPort, ports, "«s u (.b(a)); endmodule module s (input b, input c); assign n1 = 1;", "s u («.b(), .c(n1)); endmodule module s (input b, input c);", "s u («.b()); endmodule module s (input b, input c);")
}
