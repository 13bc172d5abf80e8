package aig_test

import (
	"testing"

	"sluicegate/aig"
	"sluicegate/api"
)

func TestP21_1New(t *testing.T) {
	g := aig.New()
	if aig.No != 0 || aig.Yes != 1 || g.Len() != 1 || g.Inputs() != 0 {
		t.Errorf("P21.1: %d nodes, %d inputs", g.Len(), g.Inputs())
	}
	for i := range 5 {
		if lit, err := g.Input(); lit != 2*(i+1) || err != api.OK || g.Len() != i+2 || g.Inputs() != i+1 {
			t.Errorf("P21.1: input %d, error %d, %d nodes, %d inputs", lit, err, g.Len(), g.Inputs())
		}
	}
	if other := aig.New(); other.Len() != 1 {
		t.Errorf("P21.1: a new graph with %d nodes", other.Len())
	}
}

func TestP21_1Not(t *testing.T) {
	if aig.Not(aig.No) != aig.Yes || aig.Not(aig.Yes) != aig.No {
		t.Error("P21.1: Not of a constant")
	}
	for n := range 100 {
		if aig.Not(2*n) != 2*n+1 || aig.Not(2*n+1) != 2*n {
			t.Errorf("P21.1: Not of node %d: %d, %d", n, aig.Not(2*n), aig.Not(2*n+1))
		}
	}
	g, _ := withInputs(1)
	for _, lit := range []int{least, least + 1, -2, -1, 4, 5, most - 1, most} {
		if _, err := g.And(aig.Not(lit), 0); err != api.ErrRange {
			t.Errorf("P21.1: Not(%d) is a literal, %d", lit, aig.Not(lit))
		}
	}
}

// small returns a graph of three inputs and four ANDs.
func small() *aig.Graph {
	g, x := withInputs(3)
	both := must(g.And(x[0], x[1]))
	must(g.And(aig.Not(x[0]), x[2]))
	must(g.And(aig.Not(both), x[2]))
	must(g.And(aig.Not(x[0]), aig.Not(x[1])))
	return g
}

// TestP21_1AllLiterals: each gate of all literals of a graph.
func TestP21_1AllLiterals(t *testing.T) {
	size := small().Len()
	for _, x := range gates() {
		third := 1
		if x.lits == 3 {
			third = 2 * size
		}
		for i := range 2 * size * 2 * size * third {
			lits := [3]int{i % (2 * size), i / (2 * size) % (2 * size), i / (2 * size * 2 * size)}
			g := small()
			lit, err := x.create(g, lits)
			list := tables(g)
			if err != api.OK || lit < 0 || lit >= len(list) {
				t.Fatalf("P21.1: %s of %v: %d, error %d", x.name, lits, lit, err)
			}
			var values [3]table
			for k, operand := range lits {
				values[k] = list[operand]
			}
			if want := x.value(values) & whole(g); list[lit] != want {
				t.Fatalf("P21.1: %s of %v: %b, not %b", x.name, lits, list[lit], want)
			}
			if g.Len() > size+x.nodes {
				t.Fatalf("P21.1: %s of %v creates %d nodes", x.name, lits, g.Len()-size)
			}
			mustBeSound(t, g)
			count := g.Len()
			if again, err := x.create(g, lits); again != lit || err != api.OK || g.Len() != count {
				t.Fatalf("P21.2: %s of %v: %d, then %d, error %d", x.name, lits, lit, again, err)
			}
		}
	}
}

// TestP21_1AnyGraph makes graphs of many gates, with inputs between them.
func TestP21_1AnyGraph(t *testing.T) {
	pick := chooser(21, 1)
	for range 200 {
		g, lits := withInputs(pick(3))
		lits = append(lits, aig.No, aig.Yes)
		wants := map[int]func(list []table) table{}
		for range 10 + pick(60) {
			if pick(12) == 0 && g.Inputs() < mostInputs {
				lits = append(lits, must(g.Input()))
				continue
			}
			x := gates()[pick(4)]
			operands := [3]int{lits[pick(len(lits))] ^ pick(2), lits[pick(len(lits))] ^ pick(2), lits[pick(len(lits))] ^ pick(2)}
			before := g.Len()
			lit := must(x.create(g, operands))
			if g.Len() > before+x.nodes {
				t.Fatalf("P21.1: %s creates %d nodes", x.name, g.Len()-before)
			}
			wants[lit] = func(list []table) table {
				return x.value([3]table{list[operands[0]], list[operands[1]], list[operands[2]]})
			}
			lits = append(lits, lit)
		}
		mustBeSound(t, g)
		list := tables(g)
		for lit, want := range wants {
			if list[lit] != want(list)&whole(g) {
				t.Fatalf("P21.1: literal %d is %b, not %b\n%s", lit, list[lit], want(list)&whole(g), showGraph(g))
			}
		}
	}
}

// TestP21_1Foreign: numbers that are not literals.
func TestP21_1Foreign(t *testing.T) {
	full, _ := withRoom(0)
	for _, g := range []*aig.Graph{aig.New(), small(), full, nil} {
		before := showGraph(g)
		for _, x := range gates() {
			for at := range x.lits {
				for _, lit := range []int{least, least + 1, -2, -1, 2 * g.Len(), 2*g.Len() + 1, most - 1, most} {
					for _, other := range []int{0, 1, 2*g.Len() - 1, lit} {
						operands := [3]int{other, other, other}
						operands[at] = lit
						if y, err := x.create(g, operands); y != 0 || err != api.ErrRange {
							t.Errorf("P21.1: %s of %v: %d, error %d", x.name, operands, y, err)
						}
					}
				}
			}
		}
		if after := showGraph(g); after != before {
			t.Errorf("P21.1: %s, not %s", after, before)
		}
	}
}

// TestP21_1Inputs: exactly as many nodes as are permitted, and one more.
func TestP21_1Inputs(t *testing.T) {
	g, _ := withInputs(api.MaxGates - 2)
	if lit, err := g.Input(); lit != 2*(api.MaxGates-1) || err != api.OK {
		t.Errorf("P21.1: input %d, error %d", lit, err)
	}
	for range 3 {
		if lit, err := g.Input(); lit != 0 || err != api.ErrLimit || g.Len() != api.MaxGates || g.Inputs() != api.MaxGates-1 {
			t.Errorf("P21.1: input %d, error %d, %d nodes", lit, err, g.Len())
		}
	}
}

// TestP21_1Full: what needs no node needs no room.
func TestP21_1Full(t *testing.T) {
	g, x := withRoom(7)
	a, b, c := x[0], x[1], x[2]
	and, or, xor, mux := must(g.And(a, b)), must(g.Or(b, c)), must(g.Xor(a, b)), must(g.Mux(a, b, c))
	must(g.Input())
	if g.Len() != api.MaxGates {
		t.Fatalf("P21.1: %d nodes", g.Len())
	}
	for _, x := range []struct{ lit, want int }{
		{must(g.And(b, a)), and}, {must(g.Or(c, b)), or}, {must(g.Xor(a, b)), xor}, {must(g.Mux(a, b, c)), mux},
		{must(g.And(a, aig.Yes)), a}, {must(g.And(a, aig.Not(a))), aig.No}, {must(g.Or(aig.No, a)), a}, {must(g.Xor(a, aig.Yes)), aig.Not(a)}, {must(g.Mux(c, a, a)), a}, {must(g.Mux(aig.No, a, c)), c},
	} {
		if x.lit != x.want {
			t.Errorf("P21.1: %d, not %d", x.lit, x.want)
		}
	}
	for _, x := range gates() {
		if lit, err := x.create(g, [3]int{c, aig.Not(b), a}); lit != 0 || err != api.ErrLimit || g.Len() != api.MaxGates {
			t.Errorf("P21.1: %s: %d, error %d, %d nodes", x.name, lit, err, g.Len())
		}
	}
}

// TestP21_1Room: a gate for which there is not enough room leaves no nodes behind.
func TestP21_1Room(t *testing.T) {
	for _, x := range gates() {
		operands := [3]int{4, 9, 10}
		g, _ := withInputs(5)
		must(x.create(g, operands))
		needed := g.Len() - 6
		for room := range needed + 2 {
			g, _ := withRoom(room)
			before := showGraph(g)
			lit, err := x.create(g, operands)
			switch {
			case room >= needed && err != api.OK:
				t.Errorf("P21.1: %s: error %d", x.name, err)
			case room < needed && (lit != 0 || err != api.ErrLimit || showGraph(g) != before):
				t.Errorf("P21.1: %s: %d, error %d, %d nodes", x.name, lit, err, g.Len())
			}
			if room == 1 && needed > 1 {
				mustFill(t, x.name, g)
			}
		}
	}
}

// mustFill fails unless a graph with room for one node creates the first AND that
// it is asked for, and no other one.
func mustFill(t *testing.T, name string, g *aig.Graph) {
	t.Helper()
	for i, x := range [][2]int{{4, 9}, {5, 8}, {5, 10}, {4, 8}, {7, 11}} {
		want, fault := 0, api.ErrLimit
		if i == 0 {
			want, fault = 2*(api.MaxGates-1), api.OK
		}
		if lit, err := g.And(x[0], x[1]); lit != want || err != fault {
			t.Errorf("P21.1: %s, then And of %v: %d, error %d", name, x, lit, err)
		}
	}
	mustBeSound(t, g)
}

// TestP21_1NoGraph: the graph of a result that has none.
func TestP21_1NoGraph(t *testing.T) {
	var g *aig.Graph
	if lit, err := g.Input(); lit != 0 || err != api.ErrLimit {
		t.Errorf("P21.1: input %d, error %d", lit, err)
	}
	a, b, isAnd := g.Fan(0)
	if g.Len() != 0 || g.Inputs() != 0 || a != 0 || b != 0 || isAnd || len(g.Eval(true)) != 0 || len(g.Cone(0, 2)) != 0 {
		t.Error("P21.1: no graph")
	}
}
