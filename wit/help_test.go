package wit_test

import (
	"fmt"
	"math/rand/v2"
	"slices"
	"strings"
	"testing"

	"sluicegate/api"
	"sluicegate/bmc"
	"sluicegate/bv"
	"sluicegate/cyc"
	"sluicegate/flat"
	"sluicegate/net"
	"sluicegate/sample"
	"sluicegate/synth"
	"sluicegate/vcd"
	"sluicegate/wit"
)

const (
	least = -1 << 63
	most  = 1<<63 - 1
)

func chooser(a, b uint64) sample.Choice { return rand.New(rand.NewPCG(a, b)).IntN }

func vec(width int, n uint64) bv.Vec {
	v, _ := bv.New(width, n)
	return v
}

// vecs returns vectors of one width.
func vecs(width int, list ...uint64) []bv.Vec {
	var all []bv.Vec
	for _, n := range list {
		all = append(all, vec(width, n))
	}
	return all
}

// show writes something without a difference between nil and empty lists.
func show(x any) string { return fmt.Sprintf("%+v", x) }

// showNet writes all of a netlist that is exported.
func showNet(n *net.Net) string {
	if n == nil {
		return "none"
	}
	return show(n.Nodes) + show(n.Inputs) + show(n.Regs) + show(n.Mems) + show(n.Outs) + show(n.Asserts)
}

// add returns the number of a node.
func add(t *testing.T, n *net.Net, x net.Node) int {
	t.Helper()
	i, err := n.Add(x)
	if err != api.OK {
		t.Fatalf("P17.1: %+v: error %d", x, err)
	}
	return i
}

// The nodes that usual returns a netlist with.
const (
	a   = iota // an input of 2 bits
	b          // an input of a bit
	q          // a register of 4 bits
	r          // a register of 3 bits that begins with 6
	w          // the word a of the memory m
	one        // 1
)

// usual returns a netlist with two inputs, two registers, two memories, three outputs
// and two assertions, and a run of it.
func usual(t *testing.T) (*net.Net, bmc.Witness) {
	t.Helper()
	n := &net.Net{
		Inputs: []net.Pin{{Name: "a", Width: 2}, {Name: "b", Width: 1}},
		Regs:   []net.Register{{Name: "q", Width: 4, Next: w}, {Name: "r", Width: 3, Next: r, First: vec(3, 6)}},
		Mems:   []net.Mem{{Name: "m", Width: 4, Words: 2}, {Name: "n", Width: 1, Words: 1}},
	}
	for i, x := range []net.Node{
		{Kind: net.In, Width: 2}, {Kind: net.In, Width: 1, Num: 1}, {Kind: net.Reg, Width: 4}, {Kind: net.Reg, Width: 3, Num: 1},
		{Kind: net.Word, Width: 4, Args: []int{a}}, {Kind: net.Const, Width: 1, Val: vec(1, 1)},
	} {
		if at := add(t, n, x); at != i {
			t.Fatalf("P17.1: node %d is %d", i, at)
		}
	}
	n.Mems[0].Ports = []net.Port{{On: b, At: a, Val: q}}
	n.Outs = []net.Out{{Name: "q", Node: q}, {Name: "a", Node: a}, {Name: "w", Node: w}}
	n.Asserts = []net.Assert{{Name: "p#0", On: b, Is: a}, {Name: "p#1", On: one, Is: q}}
	return n, bmc.Witness{
		Start:  cyc.State{Regs: []bv.Vec{vec(4, 9), vec(3, 6)}, Words: [][]bv.Vec{vecs(4, 3, 0), vecs(1, 1)}},
		Ins:    [][]bv.Vec{{vec(2, 1), vec(1, 1)}, {vec(2, 3), vec(1, 0)}, {vec(2, 0), vec(1, 1)}},
		Assert: 1,
	}
}

// single returns a netlist without registers, with so many inputs and one assertion,
// and a run of so many cycles.
func single(t *testing.T, inputs, cycles int) (*net.Net, bmc.Witness) {
	t.Helper()
	n := &net.Net{}
	for i := range inputs {
		n.Inputs = append(n.Inputs, net.Pin{Name: fmt.Sprint("i", i), Width: 1})
	}
	n.Asserts = []net.Assert{{On: add(t, n, net.Node{Kind: net.Const, Width: 1, Val: vec(1, 1)})}}
	var run bmc.Witness
	for range cycles {
		run.Ins = append(run.Ins, vecs(1, make([]uint64, inputs)...))
	}
	return n, run
}

// anyRun returns a valid netlist with an assertion, and a run of it.
func anyRun(pick sample.Choice) (*net.Net, bmc.Witness) {
	n := pick.Net()
	for len(n.Asserts) < 2 {
		n.Asserts = append(n.Asserts, net.Assert{Name: "p", On: pick(len(n.Nodes)), Is: pick(len(n.Nodes))})
	}
	v := pick.Values(n)
	run := bmc.Witness{Start: cyc.State{Regs: v.Regs, Words: v.Words}, Assert: pick(len(n.Asserts))}
	for range 1 + pick(5) {
		run.Ins = append(run.Ins, pick.Values(n).Ins)
	}
	return n, run
}

// mustTrace returns the trace of a witness, which has no error.
func mustTrace(t *testing.T, n *net.Net, run bmc.Witness) vcd.Trace {
	t.Helper()
	before := showNet(n) + show(run)
	x, err := wit.ToTrace(n, run)
	if err != api.OK || x.Check() != api.OK {
		t.Fatalf("P26.1: error %d: %s\n%s", err, show(run), showNet(n))
	}
	if showNet(n)+show(run) != before {
		t.Fatal("P26.1: an argument has changed")
	}
	return x
}

// mustReturn fails unless the witness of a trace is this one, also with a dump in
// between.
func mustReturn(t *testing.T, n *net.Net, x vcd.Trace, want bmc.Witness) {
	t.Helper()
	before := showNet(n) + show(x)
	got, err := wit.FromTrace(n, x)
	if err != api.OK || show(got) != show(want) || len(got.Start.Words) != len(n.Mems) {
		t.Fatalf("P26.1: error %d, %s, not %s\n%s", err, show(got), show(want), showNet(n))
	}
	if showNet(n)+show(x) != before {
		t.Fatal("P26.1: an argument has changed")
	}
	text, err := vcd.Write(x)
	if err != api.OK {
		t.Fatalf("P25.1: error %d", err)
	}
	y, line, err := vcd.Read(text)
	if err != api.OK || show(y) != show(x) {
		t.Fatalf("P25.2: error %d in line %d: %s", err, line, text)
	}
	if again, err := wit.FromTrace(n, y); err != api.OK || show(again) != show(want) {
		t.Fatalf("P26.1: error %d, %s, not %s\n%s", err, show(again), show(want), text)
	}
}

// spoil changes everything in a run.
func spoil(run bmc.Witness) {
	for _, list := range slices.Concat(run.Ins, run.Start.Words, [][]bv.Vec{run.Start.Regs}) {
		clear(list)
	}
	clear(run.Ins)
	clear(run.Start.Words)
}

// design returns the design of a source.
func design(t *testing.T, text string) flat.Design {
	t.Helper()
	d, ok := sample.Elaborated(text)
	if !ok {
		t.Fatalf("no design: %s", text)
	}
	return d
}

// mustSynth returns the netlist of a design.
func mustSynth(t *testing.T, d flat.Design) synth.Result {
	t.Helper()
	r, _, err := synth.Synth(d)
	if err != api.OK {
		t.Fatalf("P18.1: error %d\n%s", err, flat.Text(d))
	}
	return r
}

// names returns those of variables, with their widths.
func names(list []vcd.Var) string {
	var words []string
	for _, x := range list {
		words = append(words, fmt.Sprint(x.Name, ":", x.Width))
	}
	return strings.Join(words, " ")
}

// rows returns the values at each time.
func rows(list [][]bv.Vec) string {
	var lines []string
	for _, row := range list {
		var words []string
		for _, v := range row {
			words = append(words, v.Text())
		}
		lines = append(lines, strings.Join(words, " "))
	}
	return strings.Join(lines, ", ")
}
