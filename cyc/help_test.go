package cyc_test

import (
	"fmt"
	"math/rand/v2"
	"slices"
	"testing"

	"sluicegate/api"
	"sluicegate/bv"
	"sluicegate/cyc"
	"sluicegate/net"
	"sluicegate/sample"
)

const (
	least = -1 << 63
	most  = 1<<63 - 1
)

func chooser(a, b uint64) sample.Choice { return rand.New(rand.NewPCG(a, b)).IntN }

func vec(width int, n uint64) bv.Vec {
	v, _ := bv.New(width, n)
	return v
}

// vecs returns vectors of one width.
func vecs(width int, list ...uint64) []bv.Vec {
	var all []bv.Vec
	for _, n := range list {
		all = append(all, vec(width, n))
	}
	return all
}

// show writes something without a difference between nil and empty lists.
func show(x any) string { return fmt.Sprintf("%+v", x) }

// showNet writes all of a netlist that is exported.
func showNet(n *net.Net) string {
	if n == nil {
		return "none"
	}
	return show(n.Nodes) + show(n.Inputs) + show(n.Regs) + show(n.Mems) + show(n.Outs) + show(n.Asserts)
}

// stateOf returns values as a state.
func stateOf(v net.Values) cyc.State { return cyc.State{Regs: v.Regs, Words: v.Words} }

// The nodes that usual returns a netlist with.
const (
	a    = iota // an input of 4 bits
	b           // an input of a bit
	q           // a register of 4 bits
	r           // a register of 8 bits
	w           // the word a of the memory m
	sum         // q + a
	wide        // r with 128 bits
)

// usual returns a netlist without memories' ports, outputs and assertions.
func usual(t *testing.T) *net.Net {
	t.Helper()
	n := &net.Net{
		Inputs: []net.Pin{{Name: "a", Width: 4}, {Name: "b", Width: 1}},
		Regs:   []net.Register{{Name: "q", Width: 4, Next: sum}, {Name: "r", Width: 8, Next: r, First: vec(8, 200)}},
		Mems:   []net.Mem{{Name: "m", Width: 4, Words: 3}},
	}
	for i, x := range []net.Node{
		{Kind: net.In, Width: 4}, {Kind: net.In, Width: 1, Num: 1}, {Kind: net.Reg, Width: 4}, {Kind: net.Reg, Width: 8, Num: 1},
		{Kind: net.Word, Width: 4, Args: []int{a}}, {Kind: net.Bin, Op: bv.Add, Width: 4, Args: []int{q, a}}, {Kind: net.Ext, Width: 128, Args: []int{r}},
	} {
		if at, err := n.Add(x); at != i || err != api.OK {
			t.Fatalf("P17.1: node %d is %d, error %d", i, at, err)
		}
	}
	return n
}

// usualState returns a state of usual.
func usualState() cyc.State {
	return cyc.State{Regs: []bv.Vec{vec(4, 5), vec(8, 200)}, Words: [][]bv.Vec{vecs(4, 1, 2, 3)}}
}

// mustStep returns what Step returns, which is no error.
func mustStep(t *testing.T, n *net.Net, s cyc.State, ins ...bv.Vec) (cyc.State, []cyc.Seen) {
	t.Helper()
	before := showNet(n) + show(s) + show(ins)
	after, seen, err := cyc.Step(n, s, ins...)
	if err != api.OK || !cyc.Fits(n, after) {
		t.Fatalf("P19.2: error %d, %v\n%s", err, after, showNet(n))
	}
	if showNet(n)+show(s)+show(ins) != before {
		t.Fatal("P19.2: an argument has changed")
	}
	return after, seen
}

// spoil changes everything in a state.
func spoil(s cyc.State) {
	for _, words := range s.Words {
		clear(words)
	}
	clear(s.Regs)
	clear(s.Words)
}

// mustFail fails unless Step and Outs return an error and nothing else.
func mustFail(t *testing.T, what string, n *net.Net, s cyc.State, want api.Errno, ins ...bv.Vec) {
	t.Helper()
	before := showNet(n) + show(s) + show(ins)
	after, seen, err := cyc.Step(n, s, ins...)
	if err != want || show(after) != show(cyc.State{}) || len(seen) != 0 {
		t.Errorf("P19.2: %s: error %d, not %d, %v, %v", what, err, want, after, seen)
	}
	if outs, err := cyc.Outs(n, s, ins...); err != want || len(outs) != 0 {
		t.Errorf("P19.2: %s: Outs: error %d, not %d, %v", what, err, want, outs)
	}
	if showNet(n)+show(s)+show(ins) != before {
		t.Errorf("P19.2: %s: an argument has changed", what)
	}
}

// stepped returns what Step has to return for a netlist and values that have no
// error. A word is what the last port that writes to it says.
func stepped(n *net.Net, v net.Values) (cyc.State, []cyc.Seen) {
	nodes := n.Eval(v)
	isSet := func(i int) bool { return slices.Contains(nodes[i].Bits(), true) }
	var s cyc.State
	for _, x := range n.Regs {
		s.Regs = append(s.Regs, nodes[x.Next])
	}
	for i, m := range n.Mems {
		words := make([]bv.Vec, m.Words)
		for at := range words {
			words[at] = v.Words[i][at]
			for _, p := range slices.Backward(m.Ports) {
				if number, _ := bv.Ext(nodes[p.At], api.MaxWidth, false); isSet(p.On) && bv.Equal(number, vec(api.MaxWidth, uint64(at))) {
					words[at] = nodes[p.Val]
					break
				}
			}
		}
		s.Words = append(s.Words, words)
	}
	var seen []cyc.Seen
	for i, x := range n.Asserts {
		if isSet(x.On) {
			seen = append(seen, cyc.Seen{Assert: i, Holds: isSet(x.Is)})
		}
	}
	return s, seen
}
