package evsim_test

import (
	"math"
	"math/rand/v2"
	"testing"

	"sluicegate/api"
	"sluicegate/bv"
	"sluicegate/evsim"
	"sluicegate/exec"
	"sluicegate/flat"
	"sluicegate/sample"
	"sluicegate/typed"
)

// TestP16_2Example: the example of the chapter. Only the first process becomes
// active, and its execution makes the second one active.
func TestP16_2Example(t *testing.T) {
	d, s := simulator(t, "module top (input a, output y, output z); assign y = a; assign z = y; endmodule")
	if used := s.Settle(); used != 0 || s.Runs() != 2 {
		t.Errorf("P16.2: %d picks, %d runs", used, s.Runs())
	}
	s.Set(0, vec(1, 1))
	if show(s.Active()) != "[0]" {
		t.Errorf("P16.1: active %v", s.Active())
	}
	if s.Settle(); s.Runs() != 4 || get(d, s, "z") != 1 || len(s.Active()) != 0 {
		t.Errorf("P16.2: %d runs, %s, active %v", s.Runs(), contents(d, s.State()), s.Active())
	}
}

// TestP16_2Picks: which process is selected shows in how many are executed, and
// in how many picks are used.
func TestP16_2Picks(t *testing.T) {
	const chain = "module top (input a, output x, output y, output z); assign x = a; assign y = x; assign z = y; endmodule"
	const back = "module top (input a, output x, output y, output z); assign z = y; assign y = x; assign x = a; endmodule"
	for _, x := range []struct {
		text       string
		picks      []int
		used, runs int
	}{
		// All three are active, and all of them change when a is 1.
		{chain, nil, 0, 3}, {back, nil, 0, 3},
		{chain, []int{0, 0, 0}, 3, 3}, {chain, []int{0, 0, 0, 0}, 3, 3}, {chain, []int{0}, 1, 3},
		{chain, []int{2}, 1, 4}, {chain, []int{-1}, 1, 4}, {chain, []int{5}, 1, 4}, {chain, []int{-4}, 1, 4}, {chain, []int{1}, 1, 4}, {chain, []int{-2}, 1, 4},
		{chain, []int{3}, 1, 3}, {chain, []int{-3}, 1, 3}, {chain, []int{-6}, 1, 3},
		{chain, []int{2, 1}, 2, 5}, {chain, []int{-1, -1}, 2, 5}, {chain, []int{-1, -1, -1, -1, -1, -1, -1}, 5, 5}, {chain, []int{1, -1}, 2, 5}, {chain, []int{0, 1}, 2, 4}, {chain, []int{0, 2}, 2, 3},
		{back, []int{0}, 1, 4}, {back, []int{2}, 1, 3}, {back, []int{-1}, 1, 3}, {back, []int{-1, -1}, 2, 3}, {back, []int{0, 0}, 2, 5}, {back, []int{0, 0, 0, 0, 0, 0, 0, 0}, 5, 5},
		{chain, []int{math.MaxInt}, 1, 4}, {chain, []int{math.MinInt}, 1, 4}, // 1 and 1 modulo 3
		{chain, []int{0, math.MaxInt}, 2, 4}, {chain, []int{0, math.MinInt}, 2, 3}, // 1 and 0 modulo 2
	} {
		d, s := simulator(t, x.text)
		s.Set(0, vec(1, 1))
		if used := s.Settle(x.picks...); used != x.used || s.Runs() != x.runs || get(d, s, "z") != 1 || len(s.Active()) != 0 {
			t.Errorf("P16.2: %v: %d picks used, %d runs, not %d, %d; %s", x.picks, used, s.Runs(), x.used, x.runs, contents(d, s.State()))
		}
		if used := s.Settle(x.picks...); used != 0 || s.Runs() != x.runs {
			t.Errorf("P16.2: %v: %d picks used again, %d runs", x.picks, used, s.Runs())
		}
	}
}

// TestP16_2Order: without picks, what Order begins with is executed first, and
// not what has the least number.
func TestP16_2Order(t *testing.T) {
	d, s := simulator(t, `module top (input a, output u, output v, output x, output y, output z);
		assign z = v ^ y; assign y = x; assign v = u; assign x = a; assign u = a; endmodule`)
	info, _, _ := flat.Analyze(d)
	if show(info.Order) != "[3 1 4 2 0]" {
		t.Fatalf("P13.3: %v", info.Order)
	}
	if s.Settle(); s.Runs() != 5 {
		t.Errorf("P16.2: %d runs", s.Runs())
	}
	s.Set(0, vec(1, 1)) // then z changes for a moment, if it is executed too early
	if s.Settle(); s.Runs() != 10 || get(d, s, "z") != 0 || get(d, s, "v") != 1 {
		t.Errorf("P16.2: %d runs", s.Runs())
	}
}

// TestP16_2SharedSignals: processes that set bits of one signal make those active
// that read others of its bits, but never themselves.
func TestP16_2SharedSignals(t *testing.T) {
	d, s := simulator(t, `module top (input [1:0] a, output [3:0] y, output z); assign y[0] = a[0]; assign y[1] = y[0]; assign y[2] = y[1]; assign y[3] = a[1]; assign z = y[3]; endmodule`)
	s.Settle()
	runs := s.Runs()
	s.Set(0, vec(2, 2)) // 0 and 3 read a; 3 changes y, which 1, 2 and 4 read; 4 changes z
	if show(s.Active()) != "[0 3]" {
		t.Errorf("P16.1: active %v", s.Active())
	}
	if s.Settle(); s.Runs() != runs+5 || get(d, s, "y") != 8 || get(d, s, "z") != 1 {
		t.Errorf("P16.2: %d runs, %s", s.Runs()-runs, contents(d, s.State()))
	}
	runs = s.Runs()
	s.Set(0, vec(2, 3)) // 0, 1, 2 and 4; 1 makes 2 and 4 active, and 2 makes 1 and 4 active
	s.Settle(0, -1, -1)
	if get(d, s, "y") != 15 || get(d, s, "z") != 1 || len(s.Active()) != 0 {
		t.Errorf("P16.2: %s", contents(d, s.State()))
	}
}

// TestP16_2Itself: a process that reads what it sets does not make itself
// active, and one that changes nothing makes no other one active.
func TestP16_2Itself(t *testing.T) {
	d, s := simulator(t, `module top (input [3:0] a, output reg [3:0] y, output z); always @* begin y = a; y = y + 1; if (y[3]) y = 8; end assign z = y[0]; endmodule`)
	s.Settle()
	if s.Runs() != 2 || get(d, s, "y") != 1 {
		t.Errorf("P16.2: %d runs, %s", s.Runs(), contents(d, s.State()))
	}
	for _, x := range []struct{ a, runs, y int }{{0, 0, 1}, {1, 2, 2}, {7, 2, 8}, {9, 1, 8}, {7, 1, 8}, {12, 1, 8}, {15, 2, 0}} {
		runs := s.Runs()
		s.Set(0, vec(4, uint64(x.a)))
		if s.Settle(); s.Runs() != runs+x.runs || get(d, s, "y") != x.y || get(d, s, "z") != x.y%2 {
			t.Errorf("P16.2: a is %d: %d runs, %s", x.a, s.Runs()-runs, contents(d, s.State()))
		}
	}
}

// mustBeSettled fails unless no process that is not clocked is active or would
// change anything.
func mustBeSettled(t *testing.T, d flat.Design, s *evsim.Sim) {
	t.Helper()
	state := s.State()
	for i, p := range d.Procs {
		if p.Kind == flat.Clocked {
			continue
		}
		if _, _, changed := exec.Run(state, p); len(changed) > 0 || !state.Same(s.State()) || len(s.Active()) > 0 {
			t.Fatalf("P16.2: process %d changes %v; active %v\n%s", i, changed, s.Active(), flat.Text(d))
		}
	}
}

// TestP16_2Settled: whatever is done, nothing would change afterwards.
func TestP16_2Settled(t *testing.T) {
	pick := sample.Choice(rand.New(rand.NewPCG(16, 5)).IntN)
	used := 0
	for range 1000 {
		d := pick.Design()
		s := started(t, d, pick.State(d))
		for range 3 {
			used += s.Settle(somePicks(pick)...)
			mustBeSettled(t, d, s)
			for i, v := range pick.Ins(d) {
				if s.Set(d.Inputs[i], v) != api.OK {
					t.Fatal("P16.1: an input")
				}
			}
			_, n := s.Step(somePicks(pick)...)
			used += n
			mustBeSettled(t, d, s)
		}
	}
	if used < 1000 {
		t.Errorf("P16.2: only %d picks used", used)
	}
}

// TestP16_2ManyRuns: picks that execute the last processes first, as long as
// there are any.
func TestP16_2ManyRuns(t *testing.T) {
	d := flat.Design{Sigs: []typed.Sig{{Width: 64}}, Inputs: []int{0}}
	const count = 11
	for i := range count {
		e := typed.Num(vec(64, 1))
		for sig := range i + 1 {
			e = typed.Two(bv.Add, e, typed.Signal(sig, typed.Sig{Width: 64}))
		}
		d.Sigs = append(d.Sigs, typed.Sig{Width: 64})
		d.Procs = append(d.Procs, flat.Proc{Kind: flat.Wire, Body: []flat.Stmt{{Kind: flat.Set, Target: flat.Target{Sig: i + 1, Width: 64}, Value: e}}})
	}
	picks := make([]int, 100000)
	for i := range picks {
		picks[i] = -1
	}
	s, o := started(t, d, nil), started(t, d, nil)
	used := s.Settle(picks...)
	o.Settle()
	if used != s.Runs() || s.Runs() != 1<<count-1 || o.Runs() != count || !s.State().Same(o.State()) || s.State().Sig(count) != vec(64, 1<<(count-1)) {
		t.Errorf("P16.2: %d picks used, %d runs, and %d without picks", used, s.Runs(), o.Runs())
	}
}

// TestP16_2InvalidExpressions: a process whose result depends on how often it
// is executed, because the first assignment has another width than its target.
// Calls return nevertheless.
func TestP16_2InvalidExpressions(t *testing.T) {
	bit := typed.Sig{Width: 1}
	w := typed.Signal(1, typed.Sig{Width: 2})
	set := func(sig, lo int, e typed.Expr) flat.Stmt {
		return flat.Stmt{Kind: flat.Set, Target: flat.Target{Sig: sig, Lo: lo, Width: 1}, Value: e}
	}
	d := flat.Design{Sigs: []typed.Sig{bit, {Width: 2}, bit}, Inputs: []int{0}, Procs: []flat.Proc{
		{Kind: flat.Comb, Body: []flat.Stmt{{Kind: flat.If, Value: typed.Part(w, 0, 1)}, set(2, 0, typed.Num(vec(2, 0))), set(2, 0, typed.One(bv.Not, typed.Signal(2, bit)))}},
		{Kind: flat.Wire, Body: []flat.Stmt{set(1, 0, typed.Signal(0, bit))}},
		{Kind: flat.Wire, Body: []flat.Stmt{set(1, 1, typed.Signal(2, bit))}},
		{Kind: flat.Clocked, Body: []flat.Stmt{{Kind: flat.Assert, Value: typed.Signal(0, bit)}}},
	}}
	s := started(t, d, nil)
	s.Settle()
	s.Settle(1, 2, 3, -1)
	c, err := s.Cycle([]bv.Vec{vec(1, 1)}, 1, 2, 3)
	if err != api.OK || checks(c) != "0:true" {
		t.Errorf("P16.2: %v, error %d", c, err)
	}
}

// TestP16_2AnyTree: calls return for all designs that are accepted, and for the
// states of others.
func TestP16_2AnyTree(t *testing.T) {
	r := rand.New(rand.NewPCG(16, 6))
	pick := sample.Choice(r.IntN)
	accepted := 0
	for range 5000 {
		d := pick.Design()
		for range 1 + pick(4) {
			pick.Disturb(d)
		}
		start := []*exec.State{nil, exec.New(flat.Design{}), pick.State(pick.Design())}[pick(3)]
		s, _, err := evsim.New(d, start)
		if err != api.OK {
			continue
		}
		accepted++
		for range 2 {
			s.Settle(somePicks(pick)...)
			s.Cycle(pick.Ins(d), somePicks(pick)...)
			s.Set(pick(10)-1, pick.Vec(1))
		}
	}
	if accepted < 1000 {
		t.Errorf("only %d designs are accepted", accepted)
	}
}
