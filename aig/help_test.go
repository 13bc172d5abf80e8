package aig_test

import (
	"fmt"
	"math/rand/v2"
	"testing"

	"sluicegate/aig"
	"sluicegate/api"
	"sluicegate/sample"
)

const (
	least = -1 << 63
	most  = 1<<63 - 1
)

func chooser(a, b uint64) sample.Choice { return rand.New(rand.NewPCG(a, b)).IntN }

// show writes something without a difference between nil and empty lists.
func show(x any) string { return fmt.Sprintf("%+v", x) }

// showGraph writes all nodes of a graph.
func showGraph(g *aig.Graph) string {
	text := fmt.Append(nil, g.Len(), g.Inputs(), ":")
	for i := range g.Len() {
		a, b, isAnd := g.Fan(i)
		text = fmt.Append(text, " ", a, b, isAnd)
	}
	return string(text)
}

// must returns a literal that is without an error.
func must(lit int, err api.Errno) int {
	if err != api.OK {
		panic(fmt.Sprint("error ", err))
	}
	return lit
}

// withInputs returns a graph and the literals of its inputs.
func withInputs(count int) (*aig.Graph, []int) {
	g := aig.New()
	var list []int
	for range count {
		list = append(list, must(g.Input()))
	}
	return g, list
}

// withRoom returns a graph that has room for so many nodes, and the literals of
// its inputs.
func withRoom(room int) (*aig.Graph, []int) { return withInputs(api.MaxGates - 1 - room) }

// table says for which values of inputs a literal is true: bit k is for those that
// are the bits of k.
type table = uint64

const mostInputs = 6

// tables returns the table of each literal of a graph.
func tables(g *aig.Graph) []table {
	list := make([]table, 2*g.Len())
	for k := range 1 << g.Inputs() {
		var inputs []bool
		for i := range g.Inputs() {
			inputs = append(inputs, k>>i&1 == 1)
		}
		vals := g.Eval(inputs...)
		for lit := range list {
			if aig.Is(vals, lit) {
				list[lit] |= 1 << k
			}
		}
	}
	return list
}

// whole returns the table of what is always true.
func whole(g *aig.Graph) table { return 1<<(1<<g.Inputs()) - 1 }

// gate is a function of a graph, with what it computes.
type gate struct {
	name   string
	lits   int
	nodes  int // that it creates at most
	create func(g *aig.Graph, x [3]int) (int, api.Errno)
	value  func(x [3]table) table
}

func gates() []gate {
	return []gate{
		{"And", 2, 1, func(g *aig.Graph, x [3]int) (int, api.Errno) { return g.And(x[0], x[1]) }, func(x [3]table) table { return x[0] & x[1] }},
		{"Or", 2, 3, func(g *aig.Graph, x [3]int) (int, api.Errno) { return g.Or(x[0], x[1]) }, func(x [3]table) table { return x[0] | x[1] }},
		{"Xor", 2, 3, func(g *aig.Graph, x [3]int) (int, api.Errno) { return g.Xor(x[0], x[1]) }, func(x [3]table) table { return x[0] ^ x[1] }},
		{"Mux", 3, 3, func(g *aig.Graph, x [3]int) (int, api.Errno) { return g.Mux(x[0], x[1], x[2]) }, func(x [3]table) table { return x[0]&x[1] | ^x[0]&x[2] }},
	}
}

// mustBeSound fails unless the ANDs of a graph are different, with literals of
// earlier nodes, and none of them has a value that And knows.
func mustBeSound(t *testing.T, g *aig.Graph) {
	t.Helper()
	known, others := map[[2]int]int{}, 0
	for i := range g.Len() {
		a, b, isAnd := g.Fan(i)
		if !isAnd {
			others++
			if a != 0 || b != 0 {
				t.Fatalf("P21.1: node %d is no AND, of %d and %d", i, a, b)
			}
			continue
		}
		if a < 2 || a >= b || b == a^1 || b >= 2*i {
			t.Fatalf("P21.2: node %d is the AND of %d and %d", i, a, b)
		}
		if other, found := known[[2]int{a, b}]; found {
			t.Fatalf("P21.2: the nodes %d and %d are the AND of %d and %d", other, i, a, b)
		}
		known[[2]int{a, b}] = i
	}
	if others != g.Inputs()+1 {
		t.Fatalf("P21.1: %d nodes are no ANDs, and there are %d inputs", others, g.Inputs())
	}
}
