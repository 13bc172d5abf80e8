package wit_test

import (
	"fmt"
	"testing"

	"sluicegate/api"
	"sluicegate/bmc"
	"sluicegate/bv"
	"sluicegate/cyc"
	"sluicegate/net"
	"sluicegate/vcd"
	"sluicegate/wit"
)

// mustShow returns the trace of the outputs of a run, which has no error.
func mustShow(t *testing.T, n *net.Net, run bmc.Witness) vcd.Trace {
	t.Helper()
	before := showNet(n) + show(run)
	x, err := wit.Signals(n, run)
	if err != api.OK || x.Check() != api.OK || x.Top != "signals" {
		t.Fatalf("P26.2: error %d, %s: %s\n%s", err, show(x), show(run), showNet(n))
	}
	if showNet(n)+show(run) != before {
		t.Fatal("P26.2: an argument has changed")
	}
	return x
}

// TestP26_2Example: the outputs after each step, with its inputs.
func TestP26_2Example(t *testing.T) {
	n, run := usual(t)
	x := mustShow(t, n, run)
	if got := names(x.Vars); got != "q:4 a:2 w:4" {
		t.Errorf("P26.2: %s", got)
	}
	// In the first cycle, q becomes m[1], which becomes q.
	if got := rows(x.Values); got != "0000 01 1001, 0000 11 0000, 0011 00 0000" {
		t.Errorf("P26.2: %s", got)
	}
	run.Assert = least
	if y := mustShow(t, n, run); show(y) != show(x) {
		t.Errorf("P26.2: %s, not %s", show(y), show(x))
	}
	d := design(t, "module top (input clk, input [1:0] a, output reg [2:0] q, output y); reg [1:0] m [0:3]; assign y = ^q; always @(posedge clk) begin m[a] <= q; q <= q + a; p: assert (q); end endmodule")
	r := mustSynth(t, d)
	run = bmc.Witness{Start: cyc.Zero(r.Net), Ins: [][]bv.Vec{vecs(2, 3), vecs(2, 1)}}
	x = mustShow(t, r.Net, run)
	if got := names(x.Vars) + ", " + rows(x.Values); got != "a:2 q:3 y:1, 11 011 0, 01 100 1" {
		t.Errorf("P26.2: %s", got)
	}
}

// TestP26_2AnyRun: the outputs are those of cyc.Run.
func TestP26_2AnyRun(t *testing.T) {
	pick := chooser(26, 10)
	for range 1000 {
		n, run := anyRun(pick)
		x := mustShow(t, n, run)
		_, cycles, _ := cyc.Run(n, run.Start, run.Ins...)
		if len(x.Values) != len(cycles) || len(x.Vars) != len(n.Outs) {
			t.Fatalf("P26.2: %s", show(x))
		}
		for i, c := range cycles {
			if show(x.Values[i]) != show(c.Outs) {
				t.Fatalf("P26.2: %s in cycle %d, not %s", show(x.Values[i]), i, show(c.Outs))
			}
		}
		for i, out := range n.Outs {
			if x.Vars[i] != (vcd.Var{Name: out.Name, Width: n.Nodes[out.Node].Width}) {
				t.Fatalf("P26.2: %s", names(x.Vars))
			}
		}
		before := show(x)
		for _, row := range mustShow(t, n, run).Values {
			clear(row)
		}
		spoil(run)
		if show(x) != before {
			t.Fatal("P26.2: memory is shared")
		}
	}
}

// TestP26_2Errors: those of cyc.Run, and then those of Check.
func TestP26_2Errors(t *testing.T) {
	for _, x := range []struct {
		what   string
		change func(n *net.Net, run *bmc.Witness)
		err    api.Errno
	}{
		{"nothing", func(n *net.Net, run *bmc.Witness) {}, api.OK},
		{"no assertions", func(n *net.Net, run *bmc.Witness) { n.Asserts = nil }, api.OK},
		{"no outputs", func(n *net.Net, run *bmc.Witness) { n.Outs = nil }, api.OK},
		{"another initial value", func(n *net.Net, run *bmc.Witness) { run.Start.Regs[1] = vec(3, 0) }, api.OK},
		{"no cycles", func(n *net.Net, run *bmc.Witness) { run.Ins = nil }, api.OK},
		{"no cycles, and a state that does not fit", func(n *net.Net, run *bmc.Witness) { *run = bmc.Witness{} }, api.OK},
		{"as many cycles as there can be", func(n *net.Net, run *bmc.Witness) { run.Ins = repeated(run.Ins[0], 200) }, api.OK},
		{"one more", func(n *net.Net, run *bmc.Witness) { run.Ins = repeated(run.Ins[0], 201) }, api.ErrLimit},
		{"that, and a name", func(n *net.Net, run *bmc.Witness) { run.Ins = repeated(run.Ins[0], 201); n.Outs[0].Name = "" }, api.ErrLimit},
		{"fewer registers", func(n *net.Net, run *bmc.Witness) { run.Start.Regs = nil }, api.ErrRange},
		{"that, and a name", func(n *net.Net, run *bmc.Witness) { run.Start.Regs = nil; n.Outs[0].Name = "" }, api.ErrRange},
		{"fewer inputs in the last cycle", func(n *net.Net, run *bmc.Witness) { run.Ins[2] = nil }, api.ErrRange},
		{"an input of another width", func(n *net.Net, run *bmc.Witness) { run.Ins[1][0] = vec(1, 0) }, api.ErrWidth},
		{"that, and a name", func(n *net.Net, run *bmc.Witness) { run.Ins[1][0] = vec(1, 0); n.Outs[0].Name = "" }, api.ErrWidth},
		{"a netlist with an error", func(n *net.Net, run *bmc.Witness) { n.Nodes[0].Kind = 0 }, api.ErrInval},
		{"no such output", func(n *net.Net, run *bmc.Witness) { n.Outs[2].Node = 6 }, api.ErrRange},
		{"no name", func(n *net.Net, run *bmc.Witness) { n.Outs[0].Name = "" }, api.ErrName},
		{"a name with $", func(n *net.Net, run *bmc.Witness) { n.Outs[2].Name = "$q" }, api.ErrName},
		{"two names", func(n *net.Net, run *bmc.Witness) { n.Outs[2].Name = "a" }, api.ErrTwice},
		{"two names, and no name", func(n *net.Net, run *bmc.Witness) { n.Outs[2].Name = "a"; n.Outs = append(n.Outs, net.Out{}) }, api.ErrName},
		{"two names without cycles", func(n *net.Net, run *bmc.Witness) { n.Outs[2].Name, run.Ins = "a", nil }, api.ErrTwice},
		{"as many outputs as there can be", func(n *net.Net, run *bmc.Witness) { n.Outs = outputs(300) }, api.OK},
		{"one more", func(n *net.Net, run *bmc.Witness) { n.Outs = outputs(301) }, api.ErrLimit},
		{"one more, and two names", func(n *net.Net, run *bmc.Witness) { n.Outs = append(outputs(300), outputs(1)...) }, api.ErrTwice},
		{"no such output, and no cycles", func(n *net.Net, run *bmc.Witness) { n.Outs[2].Node, run.Ins = 6, nil }, api.ErrWidth},
		{"a negative output, and no cycles", func(n *net.Net, run *bmc.Witness) { n.Outs[2].Node, run.Ins = -1, nil }, api.ErrWidth},
		{"the greatest output, and no cycles", func(n *net.Net, run *bmc.Witness) { n.Outs[2].Node, run.Ins = most, nil }, api.ErrWidth},
		{"an output of no width, and no cycles", func(n *net.Net, run *bmc.Witness) { n.Nodes[q].Width, run.Ins = 0, nil }, api.ErrWidth},
	} {
		n, run := usual(t)
		x.change(n, &run)
		if x.err == api.OK {
			if got := mustShow(t, n, run); len(got.Values) != len(run.Ins) || len(got.Vars) != len(n.Outs) {
				t.Errorf("P26.2: %s: %s", x.what, show(got))
			}
			continue
		}
		if got, err := wit.Signals(n, run); err != x.err || show(got) != show(vcd.Trace{}) {
			t.Errorf("P26.2: %s: error %d, not %d, %s", x.what, err, x.err, show(got))
		}
	}
	for _, n := range []*net.Net{nil, {}} {
		if x := mustShow(t, n, bmc.Witness{Ins: make([][]bv.Vec, 2)}); len(x.Vars) != 0 || len(x.Values) != 2 {
			t.Errorf("P26.2: %s", show(x))
		}
	}
}

// repeated returns so many cycles with the same inputs.
func repeated(ins []bv.Vec, count int) [][]bv.Vec {
	var list [][]bv.Vec
	for range count {
		list = append(list, ins)
	}
	return list
}

// outputs returns so many outputs of the node a.
func outputs(count int) []net.Out {
	var list []net.Out
	for i := range count {
		list = append(list, net.Out{Name: fmt.Sprint("o", i), Node: a})
	}
	return list
}
