package tool_test

import (
	"strings"
	"testing"

	"sluicegate/api"
	"sluicegate/evsim"
	"sluicegate/exec"
	"sluicegate/flat"
	"sluicegate/sample"
)

// known are sources and what is known about them: the verdict for a bound.
var known = []struct {
	text  string
	bound int
	want  string
}{
	{`// A queue of four bytes: what comes out is what went in.
module top (input clk, input push, input pop, input [7:0] in, output [7:0] out);
  reg [7:0] m [0:3];
  reg [2:0] count = 0; reg [1:0] head = 0; reg [1:0] tail = 0;
  wire puts; wire takes;
  assign puts = push && count < 4;
  assign takes = pop && count != 0;
  assign out = m[head];
  reg [7:0] kept; reg [2:0] left = 0; reg waits = 0; // one byte that is watched
  always @(posedge clk) begin
    if (puts) begin m[tail] <= in; tail <= tail + 1; end
    if (takes) head <= head + 1;
    count <= count + puts - takes;
    full: assert (count <= 4);
    same: assert (tail - head == count[1:0]);
  end
  always @(posedge clk)
    if (!waits) begin if (puts) begin kept <= in; left <= count - takes; waits <= 1; end end
    else if (takes) begin
      if (left == 0) begin order: assert (out == kept); waits <= 0; end
      left <= left - 1;
    end
endmodule`, 7, "safe 7"},
	{`// The same with a queue that is full one byte later.
module top (input clk, input push, input pop, input [1:0] in);
  reg [1:0] m [0:1]; reg [1:0] count = 0; reg head = 0; reg tail = 0;
  always @(posedge clk) begin
    if (push && count < 3) begin m[tail] <= in; tail <= tail + 1; end
    if (pop && count != 0) head <= head + 1;
    count <= count + (push && count < 3) - (pop && count != 0);
    full: assert (count <= 2);
  end
endmodule`, 12, "fail 3 full#0"},
	{`// A round-robin arbiter: never two grants, and nobody waits for more than one other.
module arbiter #(parameter N = 2) (input clk, input [N-1:0] wants, output reg [N-1:0] gets);
  reg last = 0; integer i;
  always @* begin gets = 0; gets[!last] = wants[!last]; gets[last] = wants[last] & !wants[!last]; end
  always @(posedge clk) if (gets) last <= gets[1];
endmodule
module top (input clk, input [1:0] wants, output [1:0] gets);
  arbiter a (.clk(clk), .wants(wants), .gets(gets));
  reg [1:0] before = 0;
  always @(posedge clk) begin
    one: assert (!(gets[0] && gets[1]));
    idle: assert (gets != 0 || wants == 0);
    before <= wants & ~gets;
    fair: assert ((before & wants & ~gets) == 0);
  end
endmodule`, 12, "safe 12"},
	{`// A shift register with feedback has the period 15.
module top (input clk);
  reg [3:0] q = 1; reg [3:0] n = 0;
  always @(posedge clk) begin q <= {q[2:0], q[3] ^ q[2]}; n <= n + 1; p: assert (q != 0); z: assert (q != 1 || n == 0 || n == 15); if (n == 10) x: assert (q == 4'b1101); end
endmodule`, 12, "fail 10 x#2"},
	{`// Gray numbers differ in one bit.
module top (input clk, input go);
  reg [4:0] n = 0; wire [4:0] g; reg [4:0] last = 0; wire [4:0] d;
  function [4:0] gray; input [4:0] x; gray = x ^ (x >> 1); endfunction
  assign g = gray(n); assign d = g ^ last;
  always @(posedge clk) begin if (go) n <= n + 1; last <= g; p: assert ((d & (d - 1)) == 0); end
endmodule`, 12, "safe 12"},
	{`// Signed numbers: the absolute value is not negative, but for one.
module top (input clk, input signed [3:0] a);
  function signed [3:0] abs; input signed [3:0] x; abs = x < 0 ? -x : x; endfunction
  wire signed [3:0] b; assign b = abs(a);
  reg ok = 0;
  always @(posedge clk) begin ok <= 1; if (ok) p: assert (b >= 0); end
endmodule`, 3, "fail 1 p#0"},
	{`// Sums of bits, by a chain of adders and by a loop.
module full (input a, input b, input c, output s, output d); assign {s} = a; endmodule`, 1, "t.v:2:69: error 5"},
	{`module add (input a, input b, input c, output s, output d); assign s = a ^ b ^ c; assign d = a & b | c & (a ^ b); endmodule
module top (input clk, input [7:0] x, input [7:0] y);
  wire [8:0] c; wire [7:0] s; genvar g;
  assign c[0] = 0;
  for (g = 0; g < 8; g = g + 1) begin : bit
    add a (.a(x[g]), .b(y[g]), .c(c[g]), .s(s[g]), .d(c[g + 1]));
  end
  always @(posedge clk) p: assert ({c[8], s} == {1'b0, x} + y);
endmodule`, 2, "safe 2"},
	{`module top (input clk, input [5:0] a, input [5:0] b);
  always @(posedge clk) if (b != 0) p: assert (a / b * b + a % b == a && a % b < b);
endmodule`, 1, "safe 1"},
	{`module top (input clk, input [2:0] a, input [7:0] d, input on); reg [7:0] m [0:7]; reg [2:0] k; reg [7:0] v; reg is = 0;
  always @(posedge clk) begin if (on) begin m[a] <= d; k <= a; v <= d; is <= 1; end if (is) p: assert (m[k] == v); if (is && on && d[0]) q: assert (m[7] != 129 || k != a || v == d); end
endmodule`, 4, "fail 1 q#1"},
	{`module top (input clk, input a); reg [3:0] hist; always @(posedge clk) begin hist <= {hist[2:0], a}; p: assert (hist[3] || !hist[3]); end endmodule`, 12, "safe 12"},
}

// TestP27_2Known: the verdicts of sources that are known.
func TestP27_2Known(t *testing.T) {
	pick := chooser(27, 9)
	for _, x := range known {
		r := mustRun(t, one(x.text), "t.v", "top", x.bound, 200000)
		if got := r.Lines[len(r.Lines)-1]; got != x.want {
			t.Errorf("P27.2: %s, not %s: %s", joined(r.Lines), x.want, x.text)
			continue
		}
		if strings.HasPrefix(x.want, "fail") {
			mustFail(t, pick, one(x.text), "t.v", "top", r)
		}
		mustHold(t, pick, x.text, r.Lines, 50)
	}
}

// mustHold fails unless nothing fails in any runs on the simulator, in the cycles in
// which a report says so.
func mustHold(t *testing.T, pick sample.Choice, text string, lines []string, runs int) {
	t.Helper()
	words := strings.Fields(lines[len(lines)-1])
	if words[0] != "safe" && words[0] != "fail" && words[0] != "unknown" {
		return
	}
	cycles := 0
	for _, c := range words[1] {
		cycles = cycles*10 + int(c-'0')
	}
	d := mustDesign(t, text)
	for range runs {
		s, pos, err := evsim.New(d, begun(pick, d))
		if err != api.OK {
			t.Fatalf("P14.1: error %d at %v", err, pos)
		}
		for range cycles {
			checks, _ := s.Cycle(pick.Ins(d), anyPicks(pick)...)
			for _, c := range checks {
				if !c.Holds {
					t.Fatalf("P27.2: %s, but %s fails: %s", joined(lines), d.Asserts[c.Assert], text)
				}
			}
		}
	}
}

// begun returns any state that a design may begin with.
func begun(pick sample.Choice, d flat.Design) *exec.State {
	s := pick.State(d)
	for _, x := range d.Starts {
		s.SetSig(x.Sig, x.Val)
	}
	return s
}
