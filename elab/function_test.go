package elab_test

import (
	"fmt"
	"math/bits"
	"math/rand/v2"
	"strings"
	"testing"

	"sluicegate/api"
	"sluicegate/typed"
)

// mustCompute fails unless the outputs y and z of a function f of a and b are
// what want returns.
func mustCompute(t *testing.T, function, call string, want func(a, b uint64) uint64) {
	t.Helper()
	text := "module top #(parameter K = 5) (input [7:0] a, input [7:0] b, output [7:0] y); localparam N = 2; " + function + " assign y = " + call + "; endmodule"
	m := run(built(t, "P14.3", text))
	r := rand.New(rand.NewPCG(14, 3))
	for range 300 {
		a, b := r.Uint64N(256), r.Uint64N(256)
		m.set(a, b)
		if have := m.get("y"); have != want(a, b)&255 {
			t.Errorf("P14.3: %s of %d and %d: %d, not %d: %s", call, a, b, have, want(a, b)&255, function)
			return
		}
	}
}

// choice returns a or b.
func choice(is bool, a, b uint64) uint64 {
	if is {
		return a
	}
	return b
}

func TestP14_3Functions(t *testing.T) {
	for _, x := range []struct {
		function string
		want     func(a, b uint64) uint64
	}{
		{"f = p + q;", func(a, b uint64) uint64 { return a + b }},
		{"begin f = p; f = f * f; end", func(a, b uint64) uint64 { return a * a }},
		{"begin end", func(a, b uint64) uint64 { return 0 }},
		{";", func(a, b uint64) uint64 { return 0 }},
		{"if (p > q) f = p; else f = q;", func(a, b uint64) uint64 { return max(a, b) }},
		{"if (p > q) f = p;", func(a, b uint64) uint64 { return choice(a > b, a, 0) }},
		{"begin f = q; if (p > q) ; else f = p; end", func(a, b uint64) uint64 { return min(a, b) }},
		{"begin r = p; p = q; q = r; f = p - q; end", func(a, b uint64) uint64 { return b - a&15 }},
		{"f = r + p;", func(a, b uint64) uint64 { return a }},
		{"begin r = p; f = r; r = q; end", func(a, b uint64) uint64 { return a & 15 }},
		{"for (i = 0; i < 8; i = i + 1) f[i] = p[7 - i];", func(a, b uint64) uint64 { return uint64(bits.Reverse8(uint8(a))) }},
		{"for (i = 0; i < 8; i = i + 1) f = f + p[i];", func(a, b uint64) uint64 { return uint64(bits.OnesCount64(a)) }},
		{"for (i = 0; i < 8; i = i + 1) if (p[i]) f = i;", func(a, b uint64) uint64 { return uint64(max(bits.Len64(a), 1) - 1) }},
		{"for (i = 0; i < 8; i = i + 2) begin f[i + 1:i] = p[i + 1:i] ^ q; end", func(a, b uint64) uint64 { return a ^ b&3*0x55 }},
		{"for (i = 0; i < 2; i = i + 1) for (j = 0; j < 2; j = j + 1) f[i * 4 + j] = 1;", func(a, b uint64) uint64 { return 0x33 }},
		{"case (p[1:0]) 0: f = q; 1, 2: f = ~q; default: f = p; endcase", func(a, b uint64) uint64 { return choice(a&3 == 0, b, choice(a&3 == 3, a, ^b)) }},
		{"case (p[1:0]) default: f = p; 0: f = q; 1, 2: f = ~q; endcase", func(a, b uint64) uint64 { return choice(a&3 == 0, b, choice(a&3 == 3, a, ^b)) }},
		{"case (p[0]) 0: f = q; endcase", func(a, b uint64) uint64 { return choice(a&1 == 0, b, 0) }},
		{"case (p[0]) default: f = q; endcase", func(a, b uint64) uint64 { return b }},
		{"begin f[7:4] = p; f[3] = q[0]; f[2:1] = f[5:4]; end", func(a, b uint64) uint64 { return a&15<<4 | b&1<<3 | a&3<<1 }},
		{"begin f = p; if (q[0]) f[3:0] = 0; else f[7:4] = 0; end", func(a, b uint64) uint64 { return choice(b&1 == 1, a&0xf0, a&15) }},
		{"begin f = p; if (q[0]) begin f[0] = 1; if (q[1]) f[7] = 1; end else begin f[1] = 1; f[2] = 0; end end", func(a, b uint64) uint64 {
			return choice(b&1 == 1, a|1|b&2<<6, a&^4|2)
		}},
		{"begin s = p; f = s; end", func(a, b uint64) uint64 { return choice(a>>3&1 == 1, a|0xf0, a&15) }},
		{"begin s = p; f = s >>> 1; end", func(a, b uint64) uint64 { return choice(a>>3&1 == 1, a>>1|0xf8, a>>1&7) }},
		{"begin i = p; i = i * i; f = i >> 4; end", func(a, b uint64) uint64 { return a * a >> 4 }},
		{"begin i = i - 1; f = i >> 30; end", func(a, b uint64) uint64 { return 3 }},
		{"begin i = p; for (i = 0; i < 2; i = i + 1) f[i] = 1; f = f + i; end", func(a, b uint64) uint64 { return a + 3 }},
		{"begin for (i = 0; i < 3; i = i + 1) begin r = r + p; p = p + 1; end f = r; end", func(a, b uint64) uint64 { return (3*a + 3) & 15 }},
		{"f = K + N;", func(a, b uint64) uint64 { return 7 }},
		{"begin f[N] = p[K]; f[K:K] = q[N]; end", func(a, b uint64) uint64 { return a>>5&1<<2 | b>>2&1<<5 }},
		{"f = p[q[2:0]];", func(a, b uint64) uint64 { return a >> (b & 7) & 1 }},
		{"begin r = p; f = r[q]; end", func(a, b uint64) uint64 { return choice(b < 4, a>>(b&7)&1, 0) }},
		{"begin r[3:1] = p; f = r[q]; end", func(a, b uint64) uint64 { return choice(b < 4, a&7<<1>>(b&7)&1, 0) }},
	} {
		text := "function [7:0] f; input [7:0] p; input [7:0] q; reg [3:0] r; reg signed [3:0] s; integer i; integer j; " + x.function + " endfunction"
		mustCompute(t, text, "f(a, b)", x.want)
		mustCompute(t, text, "f(b, a) ^ a", func(a, b uint64) uint64 { return x.want(b, a) ^ a })
	}
}

// TestP14_3Signatures: ranges, signs and orders of arguments and results.
func TestP14_3Signatures(t *testing.T) {
	signed := func(a uint64, width int) uint64 { return uint64(int64(a<<(64-width)) >> (64 - width)) }
	for _, x := range []struct {
		function, call string
		want           func(a, b uint64) uint64
	}{
		{"function f; input [7:0] p; f = p; endfunction", "f(a)", func(a, b uint64) uint64 { return a & 1 }},
		{"function [3:0] f; input [7:0] p; f = p; endfunction", "f(a)", func(a, b uint64) uint64 { return a & 15 }},
		{"function signed [3:0] f; input [7:0] p; f = p; endfunction", "f(a)", func(a, b uint64) uint64 { return signed(a, 4) }},
		{"function signed [3:0] f; input [7:0] p; f = p; endfunction", "f(a) + 8'd0", func(a, b uint64) uint64 { return a & 15 }},
		{"function signed [3:0] f; input [7:0] p; begin f = p; f = f < 0; end endfunction", "f(a)", func(a, b uint64) uint64 { return a >> 3 & 1 }},
		{"function [3:0] f; input [7:0] p; begin f = p; f = f < 0; end endfunction", "f(a)", func(a, b uint64) uint64 { return 0 }},
		{"function [7:0] f; input [3:0] p; f = p; endfunction", "f(a)", func(a, b uint64) uint64 { return a & 15 }},
		{"function [7:0] f; input signed [3:0] p; f = p; endfunction", "f(a)", func(a, b uint64) uint64 { return signed(a, 4) }},
		{"function [7:0] f; input [15:0] p; f = p >> 4; endfunction", "f({a, b})", func(a, b uint64) uint64 { return (a<<8 | b) >> 4 }},
		{"function [7:0] f; input [8:0] p; f = p >> 1; endfunction", "f(a + b)", func(a, b uint64) uint64 { return (a + b) >> 1 }},
		{"function [7:0] f; input p; reg [7:0] x; input [7:0] q; input r; f = {q[6:0], p ^ r}; endfunction", "f(a[0], b, a[1])", func(a, b uint64) uint64 { return b<<1 | a&1 ^ a>>1&1 }},
		{"function [K:0] f; input [K:0] p; f = p; endfunction", "f(a)", func(a, b uint64) uint64 { return a & 63 }},
		{"function [127:0] f; input [7:0] p; f[127:120] = p; endfunction", "f(a) >> 120", func(a, b uint64) uint64 { return a }},
		{"function [7:0] g; input [7:0] p; g = p + 1; endfunction function [7:0] f; input [7:0] p; f = g(g(p)) * g(2); endfunction", "f(b)", func(a, b uint64) uint64 { return (b + 2) * 3 }},
		{"function [7:0] g; input [7:0] p; begin p = p + 1; g = p; end endfunction function [7:0] f; input [7:0] p; begin p = g(p); f = p ^ g(p); end endfunction", "f(b) + g(a)", func(a, b uint64) uint64 { return (b+1)&255 ^ (b+2)&255 + a + 1 }},
		{"function [7:0] f; input [7:0] K; input [7:0] a; f = K - a; endfunction", "f(a, b)", func(a, b uint64) uint64 { return a - b }},
		{"function [7:0] f; input [7:0] p; integer K; for (K = 0; K < 2; K = K + 1) f = f + K + p; endfunction", "f(a)", func(a, b uint64) uint64 { return 2*a + 1 }},
		{"function [7:0] g; input [7:0] p; g = ~p; endfunction function [7:0] f; input [7:0] g; f = g + 1; endfunction", "f(g(a))", func(a, b uint64) uint64 { return ^a + 1 }},
		{"function [7:0] f; input [7:0] p; reg [7:0] m; m = p; endfunction", "f(a)", func(a, b uint64) uint64 { return 0 }},
	} {
		mustCompute(t, x.function, x.call, x.want)
	}
}

// TestP14_3LongFunctions: each bit of a variable is known by itself, so that the
// values do not become too long.
func TestP14_3LongFunctions(t *testing.T) {
	d := built(t, "P14.3", "module top (input [63:0] a, output [63:0] y); function [63:0] f; input [63:0] p; integer i; begin f = ~p; for (i = 0; i < 64; i = i + 1) if (p[i]) f[63 - i] = p[i] ^ p[0]; end endfunction assign y = f(a); endmodule")
	m := run(d)
	for _, a := range []uint64{0, 1, 1 << 63, 0xf00f, 0x123456789abcdef0, 1<<64 - 1} {
		want := ^a
		for i := range 64 {
			if a>>i&1 == 1 {
				want = want&^(1<<(63-i)) | (1^a&1)<<(63-i)
			}
		}
		m.set(a)
		if m.get("y") != want {
			t.Errorf("P14.3: %x: %x, not %x", a, m.get("y"), want)
		}
	}
	if count := typed.Nodes(d.Procs[0].Body[0].Value); count > 2000 {
		t.Errorf("P14.3: %d nodes", count)
	}
}

// TestP14_3TooLongFunctions: their values have more nodes than there may be, but
// only a call of them is an error.
func TestP14_3TooLongFunctions(t *testing.T) {
	const head = "module top (input [7:0] a, output [7:0] y); function [7:0] f; input [7:0] p; integer i; begin f = p; "
	const loop = "for (i = 0; i < 64; i = i + 1) f = f + f * f; "
	d := built(t, "P14.3", head+loop+"end endfunction assign y = a; endmodule")
	if d := built(t, "P14.3", head+loop+"f = p; end endfunction assign y = f(a); endmodule"); typed.Nodes(d.Procs[0].Body[0].Value) > 100 || len(d.Procs) != 1 {
		t.Errorf("P14.3: %v", d.Procs)
	}
	built(t, "P14.3", head+loop+"if (p) f[3:0] = f; f = f[0]; i = f; end endfunction assign y = a; endmodule")
	for _, call := range []string{"f(a)", "1 + f(f(a))"} {
		list := source(t, head+loop+"end endfunction assign y = "+call+"; endmodule")
		if _, err := errorOf(list); err != api.ErrLimit {
			t.Errorf("P14.3: %s: error %d", call, err)
		}
	}
	if len(d.Procs) != 1 {
		t.Errorf("P14.3: %v", d.Procs)
	}
}

// writer writes the same statements for a function and for a process.
type writer struct {
	r *rand.Rand
	strings.Builder
}

func (w *writer) pick(words string) string {
	list := strings.Fields(words)
	return list[w.r.IntN(len(list))]
}

func (w *writer) expr(depth int) string {
	if depth == 0 || w.r.IntN(4) == 0 {
		return w.pick("a b v w x f 1 3'd5 4'sd9 K a[2] b[5:1] v[K] w[2:1] x[a[1:0]] {v,w}")
	}
	switch w.r.IntN(5) {
	case 0:
		return w.pick("~ - ! & | ^") + "(" + w.expr(depth-1) + ")"
	case 1:
		return "(" + w.expr(depth-1) + " ? " + w.expr(depth-1) + " : " + w.expr(depth-1) + ")"
	}
	return "(" + w.expr(depth-1) + " " + w.pick("+ - & | ^ < == != << >>> && *") + " " + w.expr(depth-1) + ")"
}

// stmt writes a statement; loops have different variables at each depth.
func (w *writer) stmt(depth int) {
	kind := w.r.IntN(6)
	if depth == 0 {
		kind = 0
	}
	switch kind {
	case 1:
		w.WriteString("if (" + w.expr(1) + ") ")
		w.block(depth - 1)
		if w.r.IntN(2) == 0 {
			w.WriteString("else ")
			w.block(depth - 1)
		}
	case 2:
		w.WriteString("case (" + w.expr(1) + ") ")
		defaultAt := w.r.IntN(6)
		for i := range 1 + w.r.IntN(3) {
			if i == defaultAt {
				w.WriteString("default: ")
				w.block(depth - 1)
			}
			fmt.Fprintf(w, "%s, %s: ", w.expr(1), w.expr(0))
			w.block(depth - 1)
		}
		w.WriteString("endcase ")
	case 3:
		i := fmt.Sprint("i", depth)
		fmt.Fprintf(w, "for (%s = %d; %s < 3; %s = %s + 1) begin %s[%s] = %s; %s[%s+1:%s] = %s; ", i, w.r.IntN(3), i, i, i, w.pick("v w x f"), i, w.expr(1), w.pick("v x f"), i, i, i)
		w.stmt(depth - 1)
		w.WriteString("end ")
	case 4:
		w.block(depth - 1)
	default:
		w.WriteString(w.pick("v w x f v[2] w[1:0] x[K:1] f[5:2] f[0]") + " = " + w.expr(2) + "; ")
	}
}

func (w *writer) block(depth int) {
	w.WriteString("begin ")
	for range 1 + w.r.IntN(3) {
		w.stmt(depth)
	}
	w.WriteString("end ")
}

// TestP14_3FunctionsAreProcesses compares functions with processes that have the
// same statements.
func TestP14_3FunctionsAreProcesses(t *testing.T) {
	r := rand.New(rand.NewPCG(14, 4))
	accepted := 0
	for range 120 {
		w := &writer{r: r}
		w.block(3)
		const regs = "reg [3:0] v; reg signed [2:0] w; reg [5:0] x; integer i0; integer i1; integer i2; integer i3; "
		const ports = "module top #(parameter K = 2) (input [7:0] a, input signed [6:0] b, output [7:0] y); "
		function := ports + "function [7:0] f; input [7:0] a; input signed [6:0] b; " + regs + w.String() + "endfunction assign y = f(a, b); endmodule"
		process := ports + regs + "reg [7:0] f; always @* begin v = 0; w = 0; x = 0; f = 0; " + w.String() + "end assign y = f; endmodule"
		list := source(t, function)
		if _, err := errorOf(list); err != api.OK {
			if err != api.ErrLimit {
				t.Fatalf("P14.3: error %d: %s", err, function)
			}
			continue
		}
		accepted++
		m, n := run(built(t, "P14.3", function)), run(built(t, "P14.3", process))
		for range 20 {
			a, b := r.Uint64(), r.Uint64()
			m.set(a, b)
			n.set(a, b)
			if m.get("y") != n.get("y") {
				t.Fatalf("P14.3: %d, not %d: %s", m.get("y"), n.get("y"), function)
			}
		}
	}
	if accepted < 75 {
		t.Errorf("only %d functions are accepted", accepted)
	}
}
