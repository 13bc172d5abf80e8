package evsim_test

import (
	"fmt"
	"math"
	"math/rand/v2"
	"strings"
	"testing"

	"sluicegate/api"
	"sluicegate/bv"
	"sluicegate/evsim"
	"sluicegate/exec"
	"sluicegate/flat"
	"sluicegate/fresh"
	"sluicegate/sample"
	"sluicegate/typed"
)

// several is a design with processes of all kinds: 0, 1 and 3 are not clocked.
const several = `module top (input clk, input [3:0] a, input b, output [3:0] y, output reg [3:0] z, output reg [3:0] q = 9, output reg [3:0] r);
	reg [3:0] m [0:3]; reg t = 1;
	assign y = a + q;
	always @* begin z = 3; if (b) z = m[0]; end
	always @(posedge clk) begin t = !t; q <= q + t; p: assert (y != 5); end
	wire w; assign w = a[1];
	always @(posedge clk) begin r <= z; m[a] <= r; if (w) assert (a); end
endmodule`

func TestP16_1New(t *testing.T) {
	d, s := simulator(t, several)
	want := exec.New(d)
	want.SetSig(4, vec(4, 9))
	want.SetSig(7, vec(1, 1))
	if !s.State().Same(want) {
		t.Errorf("P16.1: %s", contents(d, s.State()))
	}
	if show(s.Active()) != "[0 1 3]" || s.Runs() != 0 {
		t.Errorf("P16.1: active %v, %d runs", s.Active(), s.Runs())
	}
	empty := started(t, flat.Design{}, nil)
	c, err := empty.Cycle(nil, 1, 2)
	if len(empty.Active()) != 0 || empty.Settle(3) != 0 || empty.Runs() != 0 || len(c) != 0 || err != api.OK || !empty.State().Same(exec.New(flat.Design{})) {
		t.Error("P16.1: an empty design")
	}
}

// TestP16_1Start: a state that is given is copied, and initial values do not
// count then.
func TestP16_1Start(t *testing.T) {
	d := design(t, several)
	pick := sample.Choice(rand.New(rand.NewPCG(16, 2)).IntN)
	for _, start := range []*exec.State{exec.New(d), pick.State(d), pick.State(d)} {
		same := start.Clone()
		s := started(t, d, start)
		if !s.State().Same(same) || show(s.Active()) != "[0 1 3]" {
			t.Errorf("P16.1: %s, active %v", contents(d, s.State()), s.Active())
		}
		s.Cycle([]bv.Vec{vec(4, 6), vec(1, 1)})
		if !start.Same(same) {
			t.Error("P16.1: an argument has changed")
		}
		s = started(t, d, start)
		for sig := range d.Sigs {
			v, _ := bv.Un(bv.Not, start.Sig(sig))
			start.SetSig(sig, v)
		}
		start.SetWord(6, 0, vec(4, 3))
		if start.Same(same) || !s.State().Same(same) {
			t.Error("P16.1: a simulator changes with what New was given")
		}
	}
}

// TestP16_1Results: what is returned is new memory.
func TestP16_1Results(t *testing.T) {
	d, s := simulator(t, several)
	info, _, _ := flat.Analyze(d)
	if show(s.Info()) != show(info) {
		t.Errorf("P16.1: %v, not %v", s.Info(), info)
	}
	x := s.Info()
	clear(x.Roles)
	clear(x.Order)
	clear(s.Active())
	state := s.State()
	state.SetSig(0, vec(4, 15))
	state.SetWord(6, 0, vec(4, 15))
	if show(s.Info()) != show(info) || show(s.Active()) != "[0 1 3]" || s.State().Same(state) {
		t.Error("P16.1: a result shares memory")
	}
	before := s.State()
	if s.Step(); before.Same(s.State()) || before.Sig(4) != vec(4, 9) {
		t.Error("P16.1: a state changes with the simulator")
	}
}

// TestP16_1DesignIsNotKept: a simulator does not change with its design.
func TestP16_1DesignIsNotKept(t *testing.T) {
	pick := sample.Choice(rand.New(rand.NewPCG(16, 3)).IntN)
	for range 200 {
		d := pick.Design()
		copied := d
		copied.Procs, copied.Sigs = fresh.Procs(d.Procs...), append([]typed.Sig{}, d.Sigs...)
		copied.Inputs = append([]int{}, d.Inputs...)
		s, o := started(t, d, nil), started(t, copied, nil)
		spoil(copied)
		for range 3 {
			ins, picks := pick.Ins(d), somePicks(pick)
			c, err := s.Cycle(ins, picks...)
			otherC, otherErr := o.Cycle(ins, picks...)
			if show(c) != show(otherC) || err != otherErr || s.Runs() != o.Runs() || !s.State().Same(o.State()) || show(s.Info()) != show(o.Info()) {
				t.Fatalf("P16.1: a simulator changes with the design\n%s", flat.Text(d))
			}
		}
	}
}

// spoil changes all of a design.
func spoil(d flat.Design) {
	var spoilStmts func(list []flat.Stmt)
	spoilStmts = func(list []flat.Stmt) {
		for i, x := range list {
			spoilStmts(x.Body)
			spoilStmts(x.Else)
			clear(x.Target.Index)
			clear(x.Value.Args)
			list[i] = flat.Stmt{}
		}
	}
	for _, p := range d.Procs {
		spoilStmts(p.Body)
	}
	clear(d.Procs)
	clear(d.Sigs)
	clear(d.Inputs)
}

// broken returns a design that is likely to have an error.
func broken(pick sample.Choice) flat.Design {
	d := pick.Design()
	if len(d.Procs) == 0 {
		return d
	}
	at := pick(len(d.Procs))
	p := &d.Procs[at]
	switch pick(8) {
	case 0:
		d.Procs = append(d.Procs, fresh.Procs(*p)...)
	case 1:
		d.Procs = append(d.Procs[:at], d.Procs[at+1:]...)
	case 2:
		p.Kind = 1 + pick(3)
	case 3:
		d.Starts = append(d.Starts, flat.Start{Sig: pick(len(d.Sigs)+2) - 1, Val: pick.Vec(pick.Width())})
	case 4:
		p.Body = p.Body[1:]
	case 5:
		sig := pick(len(d.Sigs))
		e := typed.Two(bv.Ne, typed.Signal(sig, d.Sigs[sig]), typed.Signal(sig, d.Sigs[sig]))
		p.Body = append([]flat.Stmt{{Kind: flat.If, Value: e}}, p.Body...)
	case 6:
		p.Body = append(p.Body, flat.Stmt{Kind: 1 + pick(4), Target: p.Body[0].Target, Value: typed.Num(pick.Vec(max(p.Body[0].Target.Width, 1)))})
	default:
		d.Inputs = nil
	}
	return d
}

// TestP16_1Errors: New has the errors of Analyze.
func TestP16_1Errors(t *testing.T) {
	pick := sample.Choice(rand.New(rand.NewPCG(16, 4)).IntN)
	counts := map[api.Errno]int{}
	for range 4000 {
		d := broken(pick)
		_, at, want := flat.Analyze(d)
		for _, start := range []*exec.State{nil, exec.New(d), exec.New(flat.Design{})} {
			s, pos, err := evsim.New(d, start)
			if err != want || pos != at || (s == nil) != (err != api.OK) {
				t.Fatalf("P16.1: error %d at %v, not %d at %v\n%s", err, pos, want, at, flat.Text(d))
			}
		}
		counts[want]++
	}
	for _, err := range []api.Errno{api.OK, api.ErrKind, api.ErrDrive, api.ErrRace, api.ErrLatch, api.ErrLoop} {
		if counts[err] < 40 {
			t.Errorf("error %d occurs only %d times", err, counts[err])
		}
	}
}

func TestP16_1Set(t *testing.T) {
	for _, x := range []struct {
		sig  int
		n    uint64
		want string
	}{
		{0, 1, "[0 3]"}, {0, 0, "[]"}, {0, 2, "[0 3]"}, {1, 1, "[1]"}, {1, 0, "[]"},
	} {
		d, s := simulator(t, several)
		s.Settle()
		before := s.State()
		if err := s.Set(x.sig, vec(d.Sigs[x.sig].Width, x.n)); err != api.OK || show(s.Active()) != x.want {
			t.Errorf("P16.1: %d to %d: error %d, active %v", x.sig, x.n, err, s.Active())
		}
		before.SetSig(x.sig, vec(d.Sigs[x.sig].Width, x.n))
		if !s.State().Same(before) {
			t.Errorf("P16.1: %d to %d: %s", x.sig, x.n, contents(d, s.State()))
		}
	}
	_, s := simulator(t, several)
	s.Settle()
	s.Set(1, vec(1, 1))
	s.Set(0, vec(4, 1))
	s.Set(0, vec(4, 0)) // what is active remains so
	s.Set(1, vec(1, 1))
	if show(s.Active()) != "[0 1 3]" {
		t.Errorf("P16.1: active %v", s.Active())
	}
}

// TestP16_1SetErrors: nothing changes with an error.
func TestP16_1SetErrors(t *testing.T) {
	d, s := simulator(t, several)
	s.Settle()
	s.Set(1, vec(1, 1))
	before, runs := s.State(), s.Runs()
	for _, x := range []struct {
		sig  int
		v    bv.Vec
		want api.Errno
	}{
		{0, vec(3, 1), api.ErrWidth}, {0, vec(5, 1), api.ErrWidth}, {1, vec(2, 1), api.ErrWidth}, {1, bv.Vec{}, api.ErrWidth}, {0, vec(128, 1), api.ErrWidth},
		{2, vec(4, 1), api.ErrRange}, {3, vec(4, 1), api.ErrRange}, {4, vec(4, 1), api.ErrRange}, {6, vec(4, 1), api.ErrRange}, {7, vec(1, 0), api.ErrRange},
		{9, vec(4, 1), api.ErrRange}, {-1, vec(4, 1), api.ErrRange}, {math.MaxInt, vec(1, 1), api.ErrRange}, {math.MinInt, vec(1, 1), api.ErrRange},
		{2, vec(5, 1), api.ErrRange}, {6, bv.Vec{}, api.ErrRange}, {-1, bv.Vec{}, api.ErrRange}, // both apply
	} {
		if err := s.Set(x.sig, x.v); err != x.want || !s.State().Same(before) || show(s.Active()) != "[1]" || s.Runs() != runs {
			t.Errorf("P16.1: %d to %s: error %d, not %d; active %v, %s", x.sig, x.v.Text(), err, x.want, s.Active(), contents(d, s.State()))
		}
	}
}

// TestP16_1AnyBits: a process becomes active even if it reads other bits of what
// has changed.
func TestP16_1AnyBits(t *testing.T) {
	d, s := simulator(t, "module top (input [3:0] a, output y, output z, output reg w); assign y = a[3]; assign z = !y; always @* w = a[2:1]; endmodule")
	s.Settle()
	s.Set(0, vec(4, 1))
	if show(s.Active()) != "[0 2]" || get(d, s, "z") != 1 {
		t.Errorf("P16.1: active %v", s.Active())
	}
	runs := s.Runs()
	if s.Settle(); s.Runs() != runs+2 {
		t.Errorf("P16.2: %d runs", s.Runs()-runs)
	}
}

// TestP16_1CycleErrors: an error ends a cycle at the input that has it.
func TestP16_1CycleErrors(t *testing.T) {
	d, s := simulator(t, several)
	s.Settle()
	before, runs := s.State(), s.Runs()
	good, also, bad := vec(4, 6), vec(1, 1), vec(2, 1)
	for _, x := range []struct {
		ins  []bv.Vec
		want api.Errno
	}{
		{nil, api.ErrRange}, {[]bv.Vec{good}, api.ErrRange}, {[]bv.Vec{good, also, also}, api.ErrRange}, {[]bv.Vec{bad}, api.ErrRange}, {[]bv.Vec{bad, bad, bad}, api.ErrRange},
		{[]bv.Vec{bad, also}, api.ErrWidth}, {[]bv.Vec{{}, {}}, api.ErrWidth},
	} {
		c, err := s.Cycle(x.ins, 1, 2, 3)
		if err != x.want || len(c) != 0 || !s.State().Same(before) || len(s.Active()) != 0 || s.Runs() != runs {
			t.Errorf("P16.1: %v: error %d, not %d; %v, %s", x.ins, err, x.want, c, contents(d, s.State()))
		}
	}
	c, err := s.Cycle([]bv.Vec{good, bad})
	before.SetSig(0, good)
	if err != api.ErrWidth || len(c) != 0 || !s.State().Same(before) || show(s.Active()) != "[0 3]" || s.Runs() != runs {
		t.Errorf("P16.1: error %d, active %v, %s", err, s.Active(), contents(d, s.State()))
	}
	if c, err := s.Cycle([]bv.Vec{good, also}); err != api.OK || checks(c) != "0:true 1:true" {
		t.Errorf("P16.1: error %d, %v", err, c)
	}
}

// TestP16_1Limits: a design as great as can be, in which each process is after
// the next one.
func TestP16_1Limits(t *testing.T) {
	const count = api.MaxProcs - 1
	nets, items := "", ""
	for i := range count {
		nets += fmt.Sprintf("wire [127:0] w%d; ", i)
		items += fmt.Sprintf("assign w%d = w%d + 1; ", count-1-i, count-2-i)
	}
	items = strings.Replace(items, "w-1", "a", 1)
	d, s := simulator(t, "module top (input clk, input [127:0] a, input [5:0] i); reg [127:0] m [0:63]; "+nets+items+
		fmt.Sprintf("always @(posedge clk) begin m[i] <= w%d; assert (m[63] == 0); end endmodule", count-1))
	v, _ := bv.New(128, 1<<64-199, 1<<64-1)
	if len(d.Procs) != api.MaxProcs || len(s.Active()) != api.MaxProcs-1 {
		t.Fatalf("P16.1: %d processes, %d active", len(d.Procs), len(s.Active()))
	}
	for i, want := range []string{"0:true", "0:true", "0:false"} {
		c, err := s.Cycle([]bv.Vec{v, vec(6, uint64(62+min(i, 1)))})
		if err != api.OK || checks(c) != want {
			t.Errorf("P16.1: %s, error %d", checks(c), err)
		}
		v, _ = bv.Bin(bv.Add, v, vec(128, 1))
	}
	if s.State().Word(2, 62) != vec(128, 0) || s.State().Word(2, 63) != vec(128, 2) || s.Runs() != 3*api.MaxProcs {
		t.Errorf("P16.1: %d runs, %s", s.Runs(), s.State().Word(2, 63).Text())
	}
}

// TestP16_1NoSimulator: what New returns with an error has the methods too.
func TestP16_1NoSimulator(t *testing.T) {
	s, _, err := evsim.New(flat.Design{Sigs: []typed.Sig{{Width: 1}}}, nil)
	if err != api.ErrDrive || s != nil {
		t.Fatalf("P16.1: error %d", err)
	}
	c, used := s.Step(1)
	list, cycleErr := s.Cycle(nil)
	if s.State() != nil || show(s.Info()) != show(flat.Info{}) || len(s.Active()) != 0 || s.Runs() != 0 || s.Set(0, vec(1, 1)) != api.ErrRange || s.Settle(1, 2) != 0 {
		t.Error("P16.1: no simulator")
	}
	if len(c) != 0 || used != 0 || len(list) != 0 || cycleErr != api.ErrRange {
		t.Error("P16.4: no simulator")
	}
}
