package evsim_test

import (
	"math/rand/v2"
	"slices"
	"testing"

	"sluicegate/api"
	"sluicegate/bv"
	"sluicegate/exec"
	"sluicegate/flat"
	"sluicegate/sample"
	"sluicegate/typed"
)

// manyPicks are picks that select all kinds of orders.
func manyPicks() [][]int {
	lists := [][]int{nil, {0, 0, 0, 0, 0, 0, 0, 0}, {-1, -1, -1, -1, -1, -1, -1, -1, -1, -1, -1, -1}, {1, 1, 1, 1, 1, 1, 1, 1, 1}, {-1}, {0, -1, 0, -1, 0, -1, 0, -1}}
	r := rand.New(rand.NewPCG(16, 7))
	for range 20 {
		lists = append(lists, somePicks(r.IntN))
	}
	return lists
}

// TestP16_4Registers: registers receive what the state before the step leads to.
func TestP16_4Registers(t *testing.T) {
	for _, picks := range manyPicks() {
		d, s := simulator(t, `module top (input clk, input [3:0] a, output [3:0] n); reg [3:0] p = 1; reg [3:0] q = 2; reg [3:0] r = 3;
			always @(posedge clk) p <= q; always @(posedge clk) begin q <= r; q[0] <= a[0]; end always @(posedge clk) r <= p + n; assign n = r ^ a; endmodule`)
		for i, x := range []struct{ a, p, q, r, n int }{{0, 2, 2, 4, 4}, {1, 2, 5, 7, 6}, {15, 5, 7, 10, 5}} {
			_, err := s.Cycle([]bv.Vec{vec(4, uint64(x.a))}, picks...)
			if p, q, r, n := get(d, s, "p"), get(d, s, "q"), get(d, s, "r"), get(d, s, "n"); err != api.OK || p != x.p || q != x.q || r != x.r || n != x.n {
				t.Errorf("P16.4: %d, %v: %s", i, picks, contents(d, s.State()))
			}
		}
	}
}

// TestP16_4Memories: words are read as they were before the step, and the last
// write to one counts.
func TestP16_4Memories(t *testing.T) {
	for _, picks := range manyPicks() {
		d, s := simulator(t, `module top (input clk, input [3:0] a, input [2:0] i, output [3:0] y); reg [3:0] m [0:4]; reg [3:0] q; reg [3:0] o [0:4];
			assign y = m[i];
			always @(posedge clk) begin m[i] <= a; if (a == 3) m[i] <= m[i] + 1; o[y] <= a; if (a[3]) m[0] <= 9; end
			always @(posedge clk) q <= m[i] + o[0]; endmodule`)
		for i, x := range []struct {
			a, i, y, q int
			m          string
		}{
			{5, 1, 5, 0, "0 5 0 0 0"}, {3, 1, 6, 10, "0 6 0 0 0"}, {9, 6, 0, 5, "9 6 0 0 0"}, {12, 0, 9, 2, "9 6 0 0 0"}, {4, 0, 4, 2, "4 6 0 0 0"}, {8, 4, 8, 9, "9 6 0 0 8"},
		} {
			_, err := s.Cycle([]bv.Vec{vec(4, uint64(x.a)), vec(3, uint64(x.i))}, picks...)
			words := ""
			for at := range 5 {
				words += " " + show(s.State().Word(slices.IndexFunc(d.Sigs, func(x typed.Sig) bool { return x.Name == "m" }), at).Num(99))
			}
			if err != api.OK || words != " "+x.m || get(d, s, "y") != x.y || get(d, s, "q") != x.q {
				t.Errorf("P16.4: %d, %v: %s", i, picks, contents(d, s.State()))
			}
		}
	}
}

// TestP16_4Checks: assertions are in the order of the processes and of their
// statements, whatever the order of execution.
func TestP16_4Checks(t *testing.T) {
	for _, picks := range manyPicks() {
		d, s := simulator(t, `module top (input clk, input a, output reg [1:0] q); wire n; assign n = !a;
			always @(posedge clk) begin assert (a); if (a) assert (q != 1); else assert (q); assert (n); end
			always @(posedge clk) begin q <= q + 1; assert (q == 0); end
			always @(posedge clk) if (q) assert (a != n); endmodule`)
		for i, want := range []string{"0:false 2:false 3:true 4:true", "0:true 1:false 3:false 4:false 5:true", "0:false 2:true 3:true 4:false 5:true"} {
			c, err := s.Cycle([]bv.Vec{vec(1, uint64(i%2))}, picks...)
			if err != api.OK || checks(c) != want {
				t.Errorf("P16.4: %d, %v: %s, not %s", i, picks, checks(c), want)
			}
		}
		if len(d.Asserts) != 6 {
			t.Errorf("P14.1: %v", d.Asserts)
		}
	}
}

// TestP16_4Temps: what a Clocked process sets itself is kept, and is seen by it
// at once.
func TestP16_4Temps(t *testing.T) {
	for _, picks := range manyPicks() {
		d, s := simulator(t, `module top (input clk, input [3:0] a); reg [3:0] t = 1; reg [3:0] q; reg [3:0] u;
			always @(posedge clk) begin q <= t; t = t + a; if (t[3]) t[0] = 0; assert (t != 6); end
			always @(posedge clk) begin u = q; u[3] = 1; end endmodule`)
		for i, x := range []struct {
			a, t, q, u int
			checks     string
		}{{2, 3, 1, 8, "0:true"}, {3, 6, 3, 9, "0:false"}, {3, 8, 6, 11, "0:true"}, {1, 8, 8, 14, "0:true"}} {
			c, err := s.Cycle([]bv.Vec{vec(4, uint64(x.a))}, picks...)
			if err != api.OK || checks(c) != x.checks || get(d, s, "t") != x.t || get(d, s, "q") != x.q || get(d, s, "u") != x.u {
				t.Errorf("P16.4: %d, %v: %s, %s", i, picks, checks(c), contents(d, s.State()))
			}
		}
	}
}

// TestP16_4Picks: the picks that are left are used for the next part of a step.
func TestP16_4Picks(t *testing.T) {
	const text = `module top (input clk, input a, output x, output y, output z); reg q; reg r;
		assign z = y; assign y = x; assign x = a ^ q;
		always @(posedge clk) q <= !q; always @(posedge clk) r <= y; endmodule`
	for _, x := range []struct {
		picks      []int
		used, runs int
	}{
		{nil, 0, 3 + 2 + 3}, {[]int{2}, 1, 8}, {[]int{2, 1, 0}, 3, 8}, {[]int{2, 1, 0, 1}, 4, 8}, {[]int{2, 1, 0, 1, 0}, 5, 8},
		{[]int{2, 1, 0, 1, 0, 0, 0, 0, 9, 9}, 8, 8}, {[]int{0, 0, 0}, 3, 5 + 2 + 3}, {[]int{0, 0, 0, 0, 0, 0, 0, 0, 0, 0, 0, 0, 0}, 10, 10}, {[]int{-1, -1, -1, -1, -1, -1, -1}, 7, 8},
	} {
		d, s := simulator(t, text)
		s.Set(0, vec(1, 1))
		c, used := s.Step(x.picks...)
		if used != x.used || s.Runs() != x.runs || len(c) != 0 || get(d, s, "z") != 0 || get(d, s, "q") != 1 || get(d, s, "r") != 1 {
			t.Errorf("P16.4: %v: %d used, %d runs, not %d, %d; %s", x.picks, used, s.Runs(), x.used, x.runs, contents(d, s.State()))
		}
		if runs := s.Runs(); x.picks == nil {
			if s.Step(); s.Runs() != runs+2+3 {
				t.Errorf("P16.4: %d runs", s.Runs()-runs)
			}
		}
	}
}

// settledFrom returns the state that a design comes to rest in.
func settledFrom(d flat.Design, s *exec.State) *exec.State {
	s = s.Clone()
	for isChanged := true; isChanged; {
		isChanged = false
		for _, p := range d.Procs {
			if p.Kind != flat.Clocked {
				_, _, changed := exec.Run(s, p)
				isChanged = isChanged || len(changed) > 0
			}
		}
	}
	return s
}

// stepped returns the state after a clock step, and what is checked. Each
// process is executed in a copy of the state before the step.
func stepped(d flat.Design, s *exec.State) (*exec.State, []exec.Check) {
	before := settledFrom(d, s)
	after := before.Clone()
	var writes []exec.Write
	var checked []exec.Check
	for _, p := range d.Procs {
		if p.Kind == flat.Clocked {
			own := before.Clone()
			w, c, changed := exec.Run(own, p)
			writes, checked = append(writes, w...), append(checked, c...)
			for _, sig := range changed {
				after.SetSig(sig, own.Sig(sig))
			}
		}
	}
	exec.Apply(after, writes...)
	return settledFrom(d, after), checked
}

// TestP16_3AnyPicks: from any state and with any inputs, states and assertions
// are those that the design has by itself, whatever picks are given.
func TestP16_3AnyPicks(t *testing.T) {
	pick := sample.Choice(rand.New(rand.NewPCG(16, 8)).IntN)
	checked, failed := 0, 0
	for range 500 {
		d := pick.Design()
		start := pick.State(d)
		cycles := [][]bv.Vec{pick.Ins(d), pick.Ins(d), pick.Ins(d), pick.Ins(d)}
		for range 4 {
			s, want := started(t, d, start), start.Clone()
			for i, ins := range cycles {
				c, err := s.Cycle(ins, somePicks(pick)...)
				for i, v := range ins {
					want.SetSig(d.Inputs[i], v)
				}
				after, wantChecks := stepped(d, want)
				want = after
				if err != api.OK || show(c) != show(wantChecks) || !s.State().Same(want) {
					t.Fatalf("P16.3: cycle %d: %v, not %v;\n%s, not\n%s\n%s", i, c, wantChecks, contents(d, s.State()), contents(d, want), flat.Text(d))
				}
				checked += len(c)
				for _, x := range c {
					if !x.Holds {
						failed++
					}
				}
			}
		}
	}
	if checked < 1000 || failed < 200 || failed > checked-200 {
		t.Errorf("P16.3: %d assertions, %d of which fail", checked, failed)
	}
}

// TestP16_3AnySettle: the same for Settle alone, with inputs that change before
// all is settled.
func TestP16_3AnySettle(t *testing.T) {
	pick := sample.Choice(rand.New(rand.NewPCG(16, 9)).IntN)
	for range 500 {
		d := pick.Design()
		start := pick.State(d)
		s := started(t, d, start)
		for range 6 {
			for i, v := range pick.Ins(d) {
				if pick(2) == 0 {
					s.Set(d.Inputs[i], v)
					start.SetSig(d.Inputs[i], v)
				}
			}
			s.Settle(somePicks(pick)...)
			if !s.State().Same(settledFrom(d, start)) {
				t.Fatalf("P16.3: %s, not\n%s\n%s", contents(d, s.State()), contents(d, settledFrom(d, start)), flat.Text(d))
			}
		}
	}
}
