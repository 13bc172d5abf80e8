package cyc_test

import (
	"slices"
	"testing"

	"sluicegate/api"
	"sluicegate/bv"
	"sluicegate/cyc"
	"sluicegate/net"
	"sluicegate/sample"
	"sluicegate/synth"
)

// inputs returns values for so many steps.
func inputs(pick sample.Choice, n *net.Net, steps int) [][]bv.Vec {
	var list [][]bv.Vec
	for range steps {
		list = append(list, pick.Values(n).Ins)
	}
	return list
}

// mustRun fails unless Run is a sequence of Steps: of those before the first error,
// which is the wanted one.
func mustRun(t *testing.T, n *net.Net, s cyc.State, want api.Errno, ins ...[]bv.Vec) []cyc.Cycle {
	t.Helper()
	before := showNet(n) + show(s) + show(ins)
	last, list, err := cyc.Run(n, s, ins...)
	if showNet(n)+show(s)+show(ins) != before {
		t.Fatal("P19.3: an argument has changed")
	}
	text := show(last) + show(list)
	other := s.Clone()
	again, cycles, _ := cyc.Run(n, other, ins...)
	spoil(again)
	for _, x := range cycles {
		clear(x.Outs)
		clear(x.Seen)
	}
	if show(other) != show(s) || show(last)+show(list) != text {
		t.Fatal("P19.3: memory is shared")
	}
	state := s
	var steps []cyc.Cycle
	first := api.OK
	for _, x := range ins {
		after, seen, err := cyc.Step(n, state, x...)
		if err != api.OK {
			first = err
			break
		}
		outs, err := cyc.Outs(n, after, x...)
		if err != api.OK {
			t.Fatalf("P19.2: Outs: error %d", err)
		}
		state, steps = after, append(steps, cyc.Cycle{Outs: outs, Seen: seen})
	}
	if err != want || err != first || show(last) != show(state) || show(list) != show(steps) {
		t.Fatalf("P19.3: error %d, %v, %v; not %d, %v, %v\n%s", err, last, list, want, state, steps, showNet(n))
	}
	return list
}

func TestP19_3AnyNet(t *testing.T) {
	pick := chooser(19, 7)
	for range 1000 {
		n := pick.Net()
		mustRun(t, n, stateOf(pick.Values(n)), api.OK, inputs(pick, n, pick(12))...)
	}
}

// TestP19_3Example: the example of the chapter.
func TestP19_3Example(t *testing.T) {
	d, _ := sample.Elaborated("module top (input clk, output reg [3:0] q = 0); always @(posedge clk) q <= q + 1; endmodule")
	r, _, err := synth.Synth(d)
	if err != api.OK {
		t.Fatalf("P18.1: error %d", err)
	}
	start := cyc.Zero(r.Net)
	if !cyc.Begins(r.Net, start) {
		t.Error("P19.1: 0 is not the initial value")
	}
	s, list, err := cyc.Run(r.Net, start, nil, nil, nil)
	if err != api.OK || s.Regs[0] != vec(4, 3) || len(list) != 3 || cyc.Begins(r.Net, s) {
		t.Errorf("P19.3: %v, %v, error %d", s, list, err)
	}
	for i, x := range list {
		if show(x) != show(cyc.Cycle{Outs: vecs(4, uint64(i+1))}) {
			t.Errorf("P19.3: %v", x)
		}
	}
}

// TestP19_3Outputs: those of a cycle are computed from the state after the step
// and from its inputs, the assertions from the state before it.
func TestP19_3Outputs(t *testing.T) {
	n := usual(t)
	n.Mems[0].Ports = []net.Port{{On: b, At: a, Val: q}}
	n.Outs = []net.Out{{Node: q}, {Node: sum}, {Node: w}}
	n.Asserts = []net.Assert{{On: b, Is: sum}}
	list := mustRun(t, n, usualState(), api.OK, []bv.Vec{vec(4, 1), vec(1, 1)}, []bv.Vec{vec(4, 1), vec(1, 0)}, []bv.Vec{vec(4, 9), vec(1, 1)}, []bv.Vec{vec(4, 1), vec(1, 1)})
	want := []cyc.Cycle{
		{vecs(4, 6, 7, 5), []cyc.Seen{{0, true}}}, {vecs(4, 7, 8, 5), nil}, {vecs(4, 0, 9, 0), []cyc.Seen{{0, false}}}, {vecs(4, 1, 2, 0), []cyc.Seen{{0, true}}},
	}
	if show(list) != show(want) {
		t.Errorf("P19.3: %v, not %v", list, want)
	}
}

// TestP19_3Limit: exactly as many steps as are permitted, and one more.
func TestP19_3Limit(t *testing.T) {
	n := usual(t)
	pick := chooser(19, 8)
	if list := mustRun(t, n, usualState(), api.OK, inputs(pick, n, api.MaxCycles)...); len(list) != 200 {
		t.Errorf("P19.3: %d cycles", len(list))
	}
	wrong := usual(t)
	wrong.Nodes[a].Kind = 12
	for _, x := range []struct {
		n   *net.Net
		s   cyc.State
		ins [][]bv.Vec
	}{
		{n, usualState(), inputs(pick, n, api.MaxCycles+1)}, {n, usualState(), make([][]bv.Vec, 5000)}, {wrong, usualState(), make([][]bv.Vec, api.MaxCycles+1)},
		{n, cyc.State{Regs: vecs(3, 1)}, make([][]bv.Vec, api.MaxCycles+1)}, {nil, cyc.State{}, make([][]bv.Vec, api.MaxCycles+1)},
	} {
		s, list, err := cyc.Run(x.n, x.s, x.ins...)
		if err != api.ErrLimit || show(s) != show(x.s) || len(list) != 0 {
			t.Errorf("P19.3: error %d, %v, %v", err, s, list)
		}
		spoil(s)
		if show(x.s) == show(s) && len(s.Regs) > 0 {
			t.Error("P19.3: memory is shared")
		}
	}
	if list := mustRun(t, nil, cyc.State{}, api.OK, make([][]bv.Vec, api.MaxCycles)...); len(list) != 200 {
		t.Errorf("P19.3: %d cycles", len(list))
	}
}

// TestP19_3NoSteps: without steps there are no errors.
func TestP19_3NoSteps(t *testing.T) {
	wrong := usual(t)
	wrong.Nodes[a].Kind = 12
	for _, s := range []cyc.State{usualState(), {}, {Regs: vecs(3, 1), Words: [][]bv.Vec{nil, vecs(2, 3)}}} {
		for _, n := range []*net.Net{usual(t), wrong, nil, {}} {
			after, list, err := cyc.Run(n, s)
			if err != api.OK || show(after) != show(s) || len(list) != 0 {
				t.Errorf("P19.3: error %d, %v, %v", err, after, list)
			}
			before := show(s)
			spoil(after)
			if show(s) != before {
				t.Error("P19.3: memory is shared")
			}
		}
	}
}

// TestP19_3Errors: at the first error, the state before it is returned.
func TestP19_3Errors(t *testing.T) {
	pick := chooser(19, 9)
	for range 300 {
		n := pick.Net()
		ins := inputs(pick, n, 1+pick(6))
		at := pick(len(ins))
		want := api.ErrRange
		if count := len(ins[at]); count > 0 && pick(2) == 0 {
			i := pick(count)
			ins[at][i], want = vec(ins[at][i].Width()%128+1, 0), api.ErrWidth
		} else {
			ins[at] = append(ins[at], vec(1, 0))
		}
		if last := len(ins) - 1; last > at {
			ins[last] = append(ins[last], vec(1, 0), vec(2, 0))
		}
		if list := mustRun(t, n, stateOf(pick.Values(n)), want, ins...); len(list) != at {
			t.Fatalf("P19.3: %d cycles before the error in cycle %d", len(list), at)
		}
	}
	n := usual(t)
	ins := inputs(pick, n, 3)
	mustRun(t, n, cyc.State{}, api.ErrRange, ins...)
	mustRun(t, nil, usualState(), api.ErrRange, ins...)
	n.Nodes[a].Width = 3
	mustRun(t, n, usualState(), api.ErrWidth, ins...)
	n.Nodes[b].Kind = 0
	mustRun(t, n, cyc.State{}, api.ErrWidth, slices.Concat(ins, ins)...)
	n.Nodes[a].Lo = 1
	mustRun(t, n, cyc.State{}, api.ErrInval, ins...)
}
