package unroll_test

import (
	"fmt"
	"math/rand/v2"
	"slices"
	"testing"

	"sluicegate/aig"
	"sluicegate/api"
	"sluicegate/blast"
	"sluicegate/bv"
	"sluicegate/cnf"
	"sluicegate/memabs"
	"sluicegate/net"
	"sluicegate/rup"
	"sluicegate/sample"
	"sluicegate/unroll"
)

const (
	least = -1 << 63
	most  = 1<<63 - 1
)

func chooser(a, b uint64) sample.Choice { return rand.New(rand.NewPCG(a, b)).IntN }

func vec(width int, n uint64) bv.Vec {
	v, _ := bv.New(width, n)
	return v
}

// show writes something without a difference between nil and empty lists.
func show(x any) string { return fmt.Sprintf("%+v", x) }

// showUnroller writes everything that the methods of an unroller return.
func showUnroller(u *unroll.Unroller) string {
	text := fmt.Append(nil, u.Frames(), " cycles\n", u.Cnf().Text())
	for frame := range u.Frames() {
		text = append(text, showFrame(u, frame)...)
	}
	return string(text)
}

// showFrame writes all literals of a cycle.
func showFrame(u *unroll.Unroller, frame int) string {
	words := func(name string, lit func(i, bit int) (int, bool)) []byte {
		text := fmt.Append(nil, name)
		for i := 0; ; i++ {
			// A word may have no bits, but not many do in succession.
			found := false
			for more := range 3 {
				_, is := lit(i+more, 0)
				found = found || is
			}
			if !found {
				return text
			}
			text = fmt.Append(text, " ", i, ":")
			for bit := 0; ; bit++ {
				x, is := lit(i, bit)
				if !is {
					break
				}
				text = fmt.Append(text, " ", x)
			}
		}
	}
	text := fmt.Append(nil, "cycle ", frame, " ")
	text = append(text, words("in", func(i, bit int) (int, bool) { return u.In(frame, i, bit) })...)
	text = append(text, words(" reg", func(i, bit int) (int, bool) { return u.Reg(frame, i, bit) })...)
	text = append(text, words(" bad", func(i, bit int) (int, bool) {
		if bit > 0 {
			return 0, false
		}
		return u.Bad(frame, i)
	})...)
	return string(append(text, '\n'))
}

// withoutMemories returns any netlist that can be blasted, without memories, and
// its graph.
func withoutMemories(t *testing.T, pick sample.Choice) (*net.Net, blast.Result) {
	t.Helper()
	for {
		x, err := memabs.Remove(pick.Net(), pick(3))
		if err != api.OK {
			t.Fatalf("P20.1: error %d", err)
		}
		r, err := blast.Blast(x.Net)
		if err == api.OK && r.Graph.Len() < 3000 {
			return x.Net, r
		}
	}
}

// add returns the number of a node.
func add(t *testing.T, n *net.Net, x net.Node) int {
	t.Helper()
	i, err := n.Add(x)
	if err != api.OK {
		t.Fatalf("P17.1: %+v: error %d", x, err)
	}
	return i
}

// input adds an input and returns its node.
func input(t *testing.T, n *net.Net, width int) int {
	t.Helper()
	n.Inputs = append(n.Inputs, net.Pin{Name: fmt.Sprint("i", len(n.Inputs)), Width: width})
	return add(t, n, net.Node{Kind: net.In, Width: width, Num: len(n.Inputs) - 1})
}

// register adds a register that keeps its value, and returns its node.
func register(t *testing.T, n *net.Net, width int) int {
	t.Helper()
	n.Regs = append(n.Regs, net.Register{Name: fmt.Sprint("r", len(n.Regs)), Width: width})
	i := add(t, n, net.Node{Kind: net.Reg, Width: width, Num: len(n.Regs) - 1})
	n.Regs[len(n.Regs)-1].Next = i
	return i
}

// number returns the node of a constant.
func number(t *testing.T, n *net.Net, v bv.Vec) int {
	t.Helper()
	return add(t, n, net.Node{Kind: net.Const, Width: v.Width(), Val: v})
}

// un returns the node of an operation with a result of the width of its operand.
func un(t *testing.T, n *net.Net, op, x int) int {
	t.Helper()
	return add(t, n, net.Node{Kind: net.Un, Op: op, Width: n.Nodes[x].Width, Args: []int{x}})
}

// bin returns the node of an operation.
func bin(t *testing.T, n *net.Net, op, x, y int) int {
	t.Helper()
	width := 1
	if op <= bv.Sar {
		width = n.Nodes[x].Width
	}
	return add(t, n, net.Node{Kind: net.Bin, Op: op, Width: width, Args: []int{x, y}})
}

// mustBlast returns the graph of a netlist.
func mustBlast(t *testing.T, n *net.Net) blast.Result {
	t.Helper()
	r, err := blast.Blast(n)
	if err != api.OK {
		t.Fatalf("P22.1: error %d", err)
	}
	return r
}

// firsts returns the initial values of the registers of a netlist.
func firsts(n *net.Net) []bv.Vec {
	var list []bv.Vec
	for _, x := range n.Regs {
		list = append(list, x.First)
	}
	return list
}

// mustUnroll returns an unroller with so many cycles.
func mustUnroll(t *testing.T, cycles int, r blast.Result, first ...bv.Vec) *unroll.Unroller {
	t.Helper()
	u := unroll.New(r, first...)
	for i := range cycles {
		mustAdd(t, u)
		if u.Frames() != i+1 {
			t.Fatalf("P23.1: %d cycles, not %d", u.Frames(), i+1)
		}
	}
	return u
}

// mustAdd adds a cycle. It fails if there is no room for it, if a cycle before it or
// a clause changes, or if more is added than the chapter permits.
func mustAdd(t *testing.T, u *unroll.Unroller) {
	t.Helper()
	var frames []string
	for i := range u.Frames() {
		frames = append(frames, showFrame(u, i))
	}
	before := u.Cnf()
	if err := u.Frame(); err != api.OK {
		t.Fatalf("P23.1: cycle %d: error %d", len(frames), err)
	}
	after := u.Cnf()
	for i, want := range frames {
		if got := showFrame(u, i); got != want {
			t.Fatalf("P23.3: %s, not %s", got, want)
		}
	}
	for i := range before.Len() {
		if !slices.Equal(after.Clause(i), before.Clause(i)) {
			t.Fatalf("P23.3: clause %d is %v, not %v", i, after.Clause(i), before.Clause(i))
		}
	}
	if after.Vars() < before.Vars() || after.Len() < before.Len() {
		t.Fatalf("P23.3: %d variables and %d clauses, not %d and %d", after.Vars(), after.Len(), before.Vars(), before.Len())
	}
}

// mustBeShort fails if a cycle needs more than one variable or three clauses for a
// node or an assertion.
func mustBeShort(t *testing.T, u *unroll.Unroller, r blast.Result) {
	t.Helper()
	c := u.Cnf()
	most := u.Frames() * (r.Graph.Len() + len(r.On))
	if c.Vars() > most || c.Len() > 3*most {
		t.Fatalf("P23.1: %d variables and %d clauses for %d nodes and %d assertions in %d cycles", c.Vars(), c.Len(), r.Graph.Len(), len(r.On), u.Frames())
	}
}

// force adds unit clauses which say that the literals are these bits.
func force(t *testing.T, c *cnf.Cnf, bits []bool, lit func(bit int) (int, bool)) {
	t.Helper()
	for i, set := range bits {
		x, found := lit(i)
		if !found {
			t.Fatalf("P23.1: no bit %d of %d", i, len(bits))
		}
		if !set {
			x = -x
		}
		if err := c.Add(x); err != api.OK {
			t.Fatalf("P3.1: literal %d: error %d", x, err)
		}
	}
	if x, found := lit(len(bits)); x != 0 || found {
		t.Fatalf("P23.1: literal %d of a bit that does not exist", x)
	}
}

// mustFix returns the model that unit propagation alone finds.
func mustFix(t *testing.T, c *cnf.Cnf) []bool {
	t.Helper()
	lits, ok := rup.Fixed(c)
	if !ok || len(lits) != c.Vars() {
		t.Fatalf("P23.1: unit propagation determines %d of %d variables: %v", len(lits), c.Vars(), ok)
	}
	model := make([]bool, c.Vars())
	for i, lit := range lits {
		model[i] = lit > 0
	}
	if !c.Holds(model...) {
		t.Fatal("P23.1: that is no model")
	}
	return model
}

// textOf returns the bits that literals are in a model, the most significant first.
func textOf(model []bool, lit func(bit int) (int, bool)) string {
	var text []byte
	for bit := 0; ; bit++ {
		x, found := lit(bit)
		if !found {
			slices.Reverse(text)
			return string(text)
		}
		digit := byte('0')
		if unroll.Truth(model, x) {
			digit = '1'
		}
		text = append(text, digit)
	}
}

// evaluated returns the values of the literals of a graph.
func evaluated(vals []bool, lits []int) []bool {
	var bits []bool
	for _, lit := range lits {
		bits = append(bits, aig.Is(vals, lit))
	}
	return bits
}
