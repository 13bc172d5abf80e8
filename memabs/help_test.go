package memabs_test

import (
	"fmt"
	"math/rand/v2"
	"testing"

	"sluicegate/api"
	"sluicegate/bv"
	"sluicegate/cyc"
	"sluicegate/memabs"
	"sluicegate/net"
	"sluicegate/sample"
)

const (
	least = -1 << 63
	most  = 1<<63 - 1
)

func chooser(a, b uint64) sample.Choice { return rand.New(rand.NewPCG(a, b)).IntN }

func vec(width int, n uint64) bv.Vec {
	v, _ := bv.New(width, n)
	return v
}

// show writes something without a difference between nil and empty lists.
func show(x any) string { return fmt.Sprintf("%+v", x) }

// showNet writes all of a netlist that is exported.
func showNet(n *net.Net) string {
	if n == nil {
		return "none"
	}
	return show(n.Nodes) + show(n.Inputs) + show(n.Regs) + show(n.Mems) + show(n.Outs) + show(n.Asserts)
}

// showResult writes a result with what its pointer points to.
func showResult(r memabs.Result) string { return showNet(r.Net) + show(r.Regs) + show(r.First) }

// stateOf returns values as a state.
func stateOf(v net.Values) cyc.State { return cyc.State{Regs: v.Regs, Words: v.Words} }

// add returns the number of a node.
func add(t *testing.T, n *net.Net, x net.Node) int {
	t.Helper()
	i, err := n.Add(x)
	if err != api.OK {
		t.Fatalf("P17.1: %+v: error %d", x, err)
	}
	return i
}

// input adds an input and returns its node.
func input(t *testing.T, n *net.Net, width int) int {
	t.Helper()
	n.Inputs = append(n.Inputs, net.Pin{Name: fmt.Sprint("i", len(n.Inputs)), Width: width})
	return add(t, n, net.Node{Kind: net.In, Width: width, Num: len(n.Inputs) - 1})
}

// number returns the node of a constant.
func number(t *testing.T, n *net.Net, v bv.Vec) int {
	t.Helper()
	return add(t, n, net.Node{Kind: net.Const, Width: v.Width(), Val: v})
}

// word returns the node of a word.
func word(t *testing.T, n *net.Net, mem, at int) int {
	t.Helper()
	return add(t, n, net.Node{Kind: net.Word, Width: n.Mems[mem].Width, Num: mem, Args: []int{at}})
}

// out makes a node an output.
func out(n *net.Net, node int) {
	n.Outs = append(n.Outs, net.Out{Name: fmt.Sprint("o", len(n.Outs)), Node: node})
}

// stored returns a netlist with a memory that an input is written to, at the
// address and under the condition that other inputs are, and that is read at an
// address that is an input: m[at] <= val if on, and y = m[from].
func stored(t *testing.T, width, words, atWidth, fromWidth int) *net.Net {
	t.Helper()
	n := &net.Net{Mems: []net.Mem{{Name: "m", Width: width, Words: words}}}
	on, at, val, from := input(t, n, 2), input(t, n, atWidth), input(t, n, width), input(t, n, fromWidth)
	n.Mems[0].Ports = []net.Port{{On: on, At: at, Val: val}}
	n.Outs = []net.Out{{Name: "y", Node: word(t, n, 0, from)}}
	n.Asserts = []net.Assert{{Name: "p", On: on, Is: n.Outs[0].Node}}
	return n
}

// mustRemove returns a result that is without errors, and of the form that the
// chapter describes.
func mustRemove(t *testing.T, n *net.Net, cycles int) memabs.Result {
	t.Helper()
	before := showNet(n)
	r, err := memabs.Remove(n, cycles)
	if err != api.OK || r.Net == nil {
		t.Fatalf("P20.1: error %d\n%s", err, before)
	}
	if showNet(n) != before {
		t.Fatalf("P20.1: the netlist has changed\n%s", before)
	}
	if err := r.Net.Check(); err != api.OK || len(r.Net.Mems) != 0 {
		t.Fatalf("P20.1: error %d\n%s\n%s", err, showNet(r.Net), before)
	}
	if show(r.Net.Inputs) != show(n.Inputs) || outNames(r.Net) != outNames(n) {
		t.Fatalf("P20.1: other inputs, outputs or assertions\n%s\n%s", showNet(r.Net), before)
	}
	mustHaveRegs(t, n, r)
	return r
}

// outNames returns the names of outputs and assertions.
func outNames(n *net.Net) string {
	var outs, asserts []string
	for _, x := range n.Outs {
		outs = append(outs, x.Name)
	}
	for _, x := range n.Asserts {
		asserts = append(asserts, x.Name)
	}
	return fmt.Sprintf("%q %q", outs, asserts)
}

// mustHaveRegs fails unless a result has the registers of the netlist and one for
// each word, besides those whose initial value is 0.
func mustHaveRegs(t *testing.T, n *net.Net, r memabs.Result) {
	t.Helper()
	isKnown := map[int]bool{}
	known := func(i int) net.Register {
		if isKnown[i] || i < 0 || i >= len(r.Net.Regs) {
			t.Fatalf("P20.1: no register %d, or twice\n%s", i, showNet(n))
		}
		isKnown[i] = true
		return r.Net.Regs[i]
	}
	if len(r.Regs) != len(n.Regs) || len(r.First) != len(n.Mems) {
		t.Fatalf("P20.1: registers %v, words %v\n%s", r.Regs, r.First, showNet(n))
	}
	for i, x := range n.Regs {
		if y := known(r.Regs[i]); y.Name != x.Name || y.Width != x.Width || y.First != x.First {
			t.Fatalf("P20.1: register %+v, not %+v\n%s", y, x, showNet(n))
		}
	}
	for i, m := range n.Mems {
		if len(r.First[i]) != max(m.Words, 0) {
			t.Fatalf("P20.1: words %v\n%s", r.First, showNet(n))
		}
		for _, reg := range r.First[i] {
			if y := known(reg); y.Width != m.Width || y.First.Width() != 0 {
				t.Fatalf("P20.1: register %+v for a word\n%s", y, showNet(n))
			}
		}
	}
	for i, y := range r.Net.Regs {
		if !isKnown[i] && y.First != vec(y.Width, 0) {
			t.Fatalf("P20.1: register %+v of the history\n%s", y, showNet(n))
		}
	}
}

// mustAgree fails unless a result computes what the netlist does, in each of the
// steps with these inputs. It returns the state after them.
func mustAgree(t *testing.T, n *net.Net, r memabs.Result, s cyc.State, ins ...[]bv.Vec) cyc.State {
	t.Helper()
	words := show(s.Words)
	o, err := memabs.Start(r, n, s)
	if err != api.OK || !cyc.Fits(r.Net, o) || cyc.Begins(r.Net, o) != cyc.Begins(n, s) {
		t.Fatalf("P20.3: error %d, %v\n%s", err, o, showNet(n))
	}
	for i, x := range ins {
		mustBeSame(t, i, n, r, s, o, x)
		after, seen, err := cyc.Step(n, s, x...)
		other, checks, fault := cyc.Step(r.Net, o, x...)
		if err != api.OK || fault != api.OK || show(checks) != show(seen) {
			t.Fatalf("P20.2: step %d: errors %d and %d, assertions %v, not %v\n%s", i, fault, err, checks, seen, showNet(n))
		}
		s, o = after, other
		mustBeSame(t, i, n, r, s, o, x)
		if initial := show(wordsIn(r, o)); initial != words {
			t.Fatalf("P20.1: step %d: initial words %s, not %s\n%s", i, initial, words, showNet(n))
		}
	}
	return s
}

// mustBeSame fails unless registers and outputs of a result are those of the
// netlist.
func mustBeSame(t *testing.T, step int, n *net.Net, r memabs.Result, s, o cyc.State, ins []bv.Vec) {
	t.Helper()
	if regs := memabs.Read(r, n, o); show(regs) != show(s.Regs) {
		t.Fatalf("P20.2: step %d: registers %v, not %v\n%s", step, regs, s.Regs, showNet(n))
	}
	outs, err := cyc.Outs(n, s, ins...)
	others, fault := cyc.Outs(r.Net, o, ins...)
	if err != api.OK || fault != api.OK || show(others) != show(outs) {
		t.Fatalf("P20.2: step %d: errors %d and %d, outputs %v, not %v\n%s", step, fault, err, others, outs, showNet(n))
	}
}

// wordsIn returns the initial words in a state of a result.
func wordsIn(r memabs.Result, o cyc.State) [][]bv.Vec {
	var all [][]bv.Vec
	for _, list := range r.First {
		var words []bv.Vec
		for _, reg := range list {
			words = append(words, o.Regs[reg])
		}
		all = append(all, words)
	}
	return all
}

// inputs returns values for so many steps.
func inputs(pick sample.Choice, n *net.Net, steps int) [][]bv.Vec {
	var list [][]bv.Vec
	for range steps {
		list = append(list, pick.Values(n).Ins)
	}
	return list
}

// busy returns any netlist, the memories of which are written and read more often
// at words that exist.
func busy(t *testing.T, pick sample.Choice) *net.Net {
	t.Helper()
	n := pick.Net()
	any := func() int { return pick(len(n.Nodes)) }
	for i, m := range n.Mems {
		at := func() int {
			return add(t, n, net.Node{Kind: net.Ext, Width: 1 + pick(3), Args: []int{any()}})
		}
		for range 1 + pick(3) {
			val := add(t, n, net.Node{Kind: net.Ext, Width: m.Width, Signed: pick(2) == 0, Args: []int{any()}})
			n.Mems[i].Ports = append(n.Mems[i].Ports, net.Port{On: any(), At: at(), Val: val})
			n.Outs = append(n.Outs, net.Out{Name: "w", Node: word(t, n, i, at())})
		}
	}
	return n
}
