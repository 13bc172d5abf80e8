package elab_test

import (
	"strings"
	"testing"

	"sluicegate/api"
	"sluicegate/flat"
)

// mustExpandTo fails unless both lists of items have the same design, in a
// module with inputs and outputs.
func mustExpandTo(t *testing.T, short, long string) {
	t.Helper()
	const head = "module top #(parameter K = 3) (input clk, input [7:0] a, input [1:0] s, output reg [7:0] y, output reg [7:0] q, output [3:0] w); integer i; integer j; reg [3:0] m [0:7]; genvar g; "
	mustEqual(t, "P14.2", head+long+" endmodule", head+short+" endmodule")
}

// mustBecome fails unless both statements are equivalent in processes of both
// kinds.
func mustBecome(t *testing.T, short, long string) {
	t.Helper()
	const rest = " always @* q = a; assign w = a;"
	mustExpandTo(t, "always @* begin y = 0; "+short+" end"+rest, "always @* begin y = 0; "+long+" end"+rest)
	const others = " always @* y = a; assign w = a;"
	clocked := strings.NewReplacer("y = ", "q <= ", "y[", "q[", "] = ", "] <= ")
	mustExpandTo(t, "always @(posedge clk) begin q <= 0; "+clocked.Replace(short)+" end"+others, "always @(posedge clk) begin q <= 0; "+clocked.Replace(long)+" end"+others)
}

func TestP14_2Loops(t *testing.T) {
	mustEqual(t, "P14.2", "module top (input a, output reg [1:0] y); always @* begin y = 0; y[0] = a; y[1] = a; end endmodule",
		"module top (input a, output reg [1:0] y); integer i; always @* begin y = 0 ; for ( i = 0 ; i < 2 ; i = i + 1 ) y [ i ] = a ; end endmodule")
	for short, long := range map[string]string{
		"for (i = 0; i < 3; i = i + 1) y[i] = a[i + 1];":                                                "y[0] = a[1]; y[1] = a[2]; y[2] = a[3];",
		"for (i = 0; i < 0; i = i + 1) y[i] = no;":                                                      "",
		"for (i = 5; i >= 0; i = i - 2) begin y[i] = a; y[i + 1:i] = i; end":                            "y[5] = a; y[6:5] = 5; y[3] = a; y[4:3] = 3; y[1] = a; y[2:1] = 1;",
		"for (i = K; i; i = i >> 1) y = y + i;":                                                         "y = y + 3; y = y + 1;",
		"for (i = 1; i < 3; i = i + 1) for (j = i; j < 3; j = j + 1) y[i * 2 + j] = a[j];":              "y[3] = a[1]; y[4] = a[2]; y[6] = a[2];",
		"for (i = 0; i < 2; i = i + 1) begin for (i = 4; i < 6; i = i + 1) y[i] = a; y[i] = s; end":     "y[4] = a; y[5] = a; y[0] = s; y[4] = a; y[5] = a; y[1] = s;",
		"for (i = 0; i < 2; i = i + 1) if (s == i) y = a; else for (j = 0; j < 1; j = j + 1) y[i] = s;": "if (s == 32'sd0) y = a; else y[0] = s; if (s == 32'sd1) y = a; else y[1] = s;",
		"for (i = 0; i < 2; i = i + 1) case (s) i: y = a; i + 2: y = s; endcase":                        "case (s) 0: y = a; 0 + 2: y = s; endcase case (s) 1: y = a; 1 + 2: y = s; endcase",
		"for (i = 0; i < 2; i = i + 1) begin end":                                                       "", "for (i = 0; i < 1; i = i + 1) ;": "",
	} {
		mustBecome(t, short, long)
	}
}

// TestP14_2LoopNumbers: the loop variable is a number of 32 bits with a sign.
func TestP14_2LoopNumbers(t *testing.T) {
	d := built(t, "P14.2", "module top (output reg [39:0] y, output reg z); integer i; always @* for (i = -2; i < -1; i = i + 1) begin y = i; z = i < 1'sd0; end endmodule")
	m := run(d)
	if m.get("y") != 1<<40-2 || m.get("z") != 1 {
		t.Errorf("P14.2: %d, %d", m.get("y"), m.get("z"))
	}
}

func TestP14_2Cases(t *testing.T) {
	for short, long := range map[string]string{
		"case (s) 0: y = a; endcase":                                                     "if (s == 0) y = a;",
		"case (s) 0: y = a; 1: y = s; endcase":                                           "if (s == 0) y = a; else if (s == 1) y = s;",
		"case (s) 0: y = a; 1: y = s; default: y = 1; endcase":                           "if (s == 0) y = a; else if (s == 1) y = s; else y = 1;",
		"case (s) default: y = 1; 0: y = a; 1: y = s; endcase":                           "if (s == 0) y = a; else if (s == 1) y = s; else y = 1;",
		"case (s) 0: y = a; default: y = 1; 1: y = s; endcase":                           "if (s == 0) y = a; else if (s == 1) y = s; else y = 1;",
		"case (s) 0, 1, 2: y = a; a, a[3], a + 1: y = s; endcase":                        "if ((s == 0) | (s == 1) | (s == 2)) y = a; else if ((s == a) | (s == a[3]) | (s == a + 1)) y = s;",
		"case (s) default: y = a; endcase":                                               "y = a;",
		"case (s) default: ; endcase":                                                    "",
		"case (s) default: begin y = a; y = s; end endcase":                              "y = a; y = s;",
		"case (s + 1) 4'd4: y = a; 2'sd1: y = s; endcase":                                "if (s + 1 == 4'd4) y = a; else if (s + 1 == 2'sd1) y = s;",
		"case (1) s[0]: y = a; s[1]: y = s; endcase":                                     "if (1 == s[0]) y = a; else if (1 == s[1]) y = s;",
		"case (s) 0: case (a) 1: y = a; default: y = s; endcase default: y = 3; endcase": "if (s == 0) if (a == 1) y = a; else y = s; else y = 3;",
		"case (s) 0: ; 1: begin end default: y = 3; endcase":                             "if (s == 0) ; else if (s == 1) begin end else y = 3;",
		"case (s) 0: y = a; 0: y = s; endcase":                                           "if (s == 0) y = a; else if (s == 0) y = s;",
		"case (a) K: y = 1; K + 1: y = 2; endcase":                                       "if (a == K) y = 1; else if (a == K + 1) y = 2;",
	} {
		mustBecome(t, short, long)
	}
}

func TestP14_2Blocks(t *testing.T) {
	for short, long := range map[string]string{
		"begin y = a; begin end begin y = s; ; end end": "y = a; y = s;",
		"begin begin begin y = a; end end end":          "y = a;",
		"if (s) begin y = a; begin y = s; end end":      "if (s) begin y = a; y = s; end",
		"if (s) ; else begin y = a; end":                "if (s) begin end else y = a;",
	} {
		mustBecome(t, short, long)
	}
	d := built(t, "P14.2", "module top (input s, output reg y); always @* begin y = 0; if (s) ; if (s) begin end else ; if (s) if (s) y = 1; else y = 0; end endmodule")
	body := d.Procs[0].Body
	if len(body) != 4 || len(body[1].Body)+len(body[1].Else)+len(body[2].Body)+len(body[2].Else) != 0 || len(body[3].Else) != 0 || body[3].Body[0].Kind != flat.If {
		t.Errorf("P14.2: %v", body)
	}
}

// TestP14_2Items: parameters, and blocks of items.
func TestP14_2Items(t *testing.T) {
	const rest = " always @* y = a; always @* q = a;"
	for short, long := range map[string]string{
		"for (g = 0; g < 4; g = g + 1) begin : b assign w[g] = a[g * 2]; end":                                                                            "assign w[0] = a[0 * 2]; assign w[1] = a[1 * 2]; assign w[2] = a[2 * 2]; assign w[3] = a[3 * 2];",
		"for (g = 3; g > 0; g = g - 2) begin : b assign w[g:g - 1] = a[g:g - 1]; end":                                                                    "assign w[3:2] = a[3:2]; assign w[1:0] = a[1:0];",
		"for (g = 0; g < 0; g = g + 1) begin : b assign w = no; end assign w = a;":                                                                       "assign w = a;",
		"for (g = 0; g < 2; g = g + 1) begin : b if (g == 1) begin : c assign w[3:1] = a; end else begin : d assign w[0] = s; end end":                   "assign w[0] = s; assign w[3:1] = a;",
		"if (K == 3) begin : b assign w = a; end":                                                                                                        "assign w = a;",
		"if (K == 3) begin : b assign w = a; end else begin : c assign w = no; end":                                                                      "assign w = a;",
		"if (K - 3) begin : b assign w = no; end else begin : c assign w = a; end":                                                                       "assign w = a;",
		"assign w = a; if (0) begin : b assign no = no; end":                                                                                             "assign w = a;",
		"if (-1) begin : b if (K) begin : c assign w = a; end end":                                                                                       "assign w = a;",
		"generate if (1) begin : b assign w = a; end endgenerate":                                                                                        "assign w = a;",
		"localparam N = K - 1; assign w[N:0] = a[K:1]; assign w[K] = K;":                                                                                 "assign w[2:0] = a[3:1]; assign w[3] = 3;",
		"if (1) begin : b localparam K = 2; assign w[K:0] = a; end assign w[K] = a;":                                                                     "assign w[2:0] = a; assign w[3] = a;",
		"for (g = 0; g < 2; g = g + 1) begin : b localparam N = g * 2; assign w[N + 1:N] = N; end":                                                       "assign w[1:0] = 0; assign w[3:2] = 2;",
		"for (g = 0; g < 2; g = g + 1) begin : b genvar g2; for (g2 = 0; g2 < 2; g2 = g2 + 1) begin : c assign w[g * 2 + g2] = g2; end end":              "assign w[0] = 0; assign w[1] = 1; assign w[2] = 0; assign w[3] = 1;",
		"for (g = 0; g < 1; g = g + 1) begin : b for (g = 0; g < 2; g = g + 1) begin : c assign w[g] = 1; end assign w[g + 2] = 1; end assign w[3] = 1;": "assign w[0] = 1; assign w[1] = 1; assign w[2] = 1; assign w[3] = 1;",
	} {
		mustExpandTo(t, short+rest, long+rest)
	}
	mustEqual(t, "P14.2", "module top (input [3:0] a, output [3:0] y); assign y = a + 32'sd9; endmodule",
		"module top #(parameter N = 9) (input [3:0] a, output [3:0] y); assign y = a + N; endmodule",
		"module top (input [3:0] a, output [3:0] y); localparam M = 3; localparam N = M * M; assign y = a + N; endmodule",
		"module top #(parameter W = 3) (input [W:0] a, output [W:0] y); localparam N = W * W; assign y = a + N; endmodule")
}

// TestP14_2Instances: each instance of a loop has its own parameters.
func TestP14_2Instances(t *testing.T) {
	d := built(t, "P14.2", `module top (input [3:0] a, output [3:0] y); wire [4:0] c; assign c[0] = 0; genvar i;
		for (i = 0; i < 4; i = i + 1) begin : bit add #(.N(i)) u (.a(a[i]), .c(c[i]), .y(y[i]), .d(c[i + 1])); end endmodule
		module add #(parameter N = 7) (input a, input c, output y, output d); localparam M = 4'b1011 >> N & 1; assign y = a ^ c ^ M; assign d = a & c | M & (a | c); endmodule`)
	m := run(d)
	for a := range uint64(16) {
		m.set(a)
		if m.get("y") != (a+11)&15 || m.get("c") != (a+11)>>4<<4|carries(a, 11) {
			t.Errorf("P14.2: %d: %d, %b", a, m.get("y"), m.get("c"))
		}
	}
}

// carries returns the carries into bits 0 to 3 of a sum.
func carries(a, b uint64) uint64 { return (a ^ b ^ (a + b)) & 15 }

// TestP14_2LongestLoops: the greatest permitted number of iterations.
func TestP14_2LongestLoops(t *testing.T) {
	d := built(t, "P14.2", "module top (input [63:0] a, output reg [63:0] y, output [63:0] z); integer i; genvar g; always @* begin y = 0; for (i = 0; i < 64; i = i + 1) y[i] = a[63 - i]; end for (g = 64; g; g = g - 1) begin : b assign z[g - 1] = y[64 - g]; end endmodule")
	m := run(d)
	m.set(0xf123456789abcde1)
	if m.get("z") != 0xf123456789abcde1 || len(d.Procs) != 65 || len(d.Procs[0].Body) != 65 {
		t.Errorf("P14.2: %x", m.get("z"))
	}
	const head, tail = "module top (output reg [6:0] y); integer i; genvar g; always @* y = 0; ", " endmodule"
	mustFail(t, api.ErrLimit, "module top (output reg y); integer i; always @* begin y = 0; «for (i = 0; i < 65; i = i + 1) y = 1; end endmodule")
	mustFail(t, api.ErrLimit, "module top (output reg y); integer i; always @* begin y = 0; «for (i = 0; 1; i = i) ; end endmodule")
	mustFail(t, api.ErrLimit, head+"«for (g = 0; g <= 64; g = g + 1) begin : b end"+tail)
	built(t, "P14.2", head+"for (g = 0; g < 64; g = g + 1) begin : b end"+tail)
}
