package aig_test

import (
	"testing"

	"sluicegate/aig"
	"sluicegate/api"
)

// TestP21_2And compares And with what the chapter says of each case, for all
// literals of graphs with more and more of them.
func TestP21_2And(t *testing.T) {
	pick := chooser(21, 2)
	for range 100 {
		g, _ := withInputs(1 + pick(4))
		known := map[[2]int]int{}
		for range 150 {
			a, b := pick(2*g.Len()), pick(2*g.Len())
			want, isNew := 0, false
			switch {
			case a == aig.No || b == aig.No || a == aig.Not(b):
				want = aig.No
			case b == aig.Yes || b == a:
				want = a
			case a == aig.Yes:
				want = b
			default:
				pair := [2]int{min(a, b), max(a, b)}
				if known[pair] == 0 {
					known[pair], isNew = 2*g.Len(), true
				}
				want = known[pair]
			}
			before := g.Len()
			lit, err := g.And(a, b)
			if err != api.OK || lit != want || (g.Len() != before) != isNew {
				t.Fatalf("P21.2: And(%d, %d) is %d, not %d, error %d, %d nodes, before %d", a, b, lit, want, err, g.Len(), before)
			}
		}
		for pair, lit := range known {
			a, b, isAnd := g.Fan(lit / 2)
			if a != pair[0] || b != pair[1] || !isAnd || lit%2 == 1 {
				t.Fatalf("P21.2: literal %d is the AND of %d and %d, not %v", lit, a, b, pair)
			}
			if must(g.And(pair[0], pair[1])) != lit || must(g.And(pair[1], pair[0])) != lit {
				t.Fatalf("P21.2: And(%d, %d) is no longer %d", a, b, lit)
			}
		}
		mustBeSound(t, g)
	}
}

// TestP21_2Example: the example of the chapter.
func TestP21_2Example(t *testing.T) {
	g, _ := withInputs(2)
	x, y := must(g.And(2, 4)), must(g.And(4, 2))
	if x != y || x != 6 || must(g.And(2, 3)) != aig.No || g.Len() != 4 {
		t.Errorf("P21.2: %d, %d, %d nodes", x, y, g.Len())
	}
}

// TestP21_2Known: gates with a value that is known create no node.
func TestP21_2Known(t *testing.T) {
	g, x := withInputs(3)
	c := x[2]
	count := g.Len()
	for _, a := range []int{aig.No, aig.Yes, x[0], aig.Not(x[0]), x[1]} {
		not := aig.Not(a)
		for i, y := range [][2]int{
			{must(g.And(a, a)), a}, {must(g.And(a, not)), aig.No}, {must(g.And(a, aig.No)), aig.No}, {must(g.And(aig.No, a)), aig.No}, {must(g.And(a, aig.Yes)), a}, {must(g.And(aig.Yes, a)), a},
			{must(g.Or(a, a)), a}, {must(g.Or(a, not)), aig.Yes}, {must(g.Or(a, aig.No)), a}, {must(g.Or(aig.No, a)), a}, {must(g.Or(a, aig.Yes)), aig.Yes}, {must(g.Or(aig.Yes, a)), aig.Yes},
			{must(g.Xor(a, a)), aig.No}, {must(g.Xor(a, not)), aig.Yes}, {must(g.Xor(a, aig.No)), a}, {must(g.Xor(aig.No, a)), a}, {must(g.Xor(a, aig.Yes)), not}, {must(g.Xor(aig.Yes, a)), not},
			{must(g.Mux(c, a, a)), a}, {must(g.Mux(aig.Yes, a, c)), a}, {must(g.Mux(aig.No, c, a)), a}, {must(g.Mux(a, aig.Yes, aig.No)), a}, {must(g.Mux(a, aig.No, aig.Yes)), not}, {must(g.Mux(a, a, aig.No)), a},
			{must(g.Mux(a, a, not)), aig.Yes}, {must(g.Mux(a, not, a)), aig.No}, {must(g.Mux(a, aig.Yes, a)), a}, {must(g.Mux(a, a, a)), a}, {must(g.Mux(a, not, aig.No)), aig.No}, {must(g.Mux(a, a, aig.Yes)), aig.Yes},
		} {
			if y[0] != y[1] || g.Len() != count {
				t.Fatalf("P21.2: gate %d of %d: %d, not %d, %d nodes", i, a, y[0], y[1], g.Len())
			}
		}
	}
}

// TestP21_2OneAnd: a Mux that is a conjunction or a disjunction needs one node.
func TestP21_2OneAnd(t *testing.T) {
	for _, x := range [][4]int{
		{2, aig.Yes, 4, 7}, {2, 2, 4, 7}, {2, 4, aig.No, 6}, {2, 4, 2, 6}, {2, aig.No, 4, 6}, {2, 3, 4, 6}, {2, 4, aig.Yes, 7}, {2, 4, 3, 7}, {3, aig.Yes, 5, 7}, {3, 5, 2, 7},
	} {
		g, _ := withInputs(2)
		if lit := must(g.Mux(x[0], x[1], x[2])); lit != x[3] || g.Len() != 4 {
			t.Errorf("P21.2: Mux of %v: %d, %d nodes", x[:3], lit, g.Len())
		}
	}
}

func TestP21_2Fan(t *testing.T) {
	g := small()
	for _, x := range []struct {
		node, a, b int
		isAnd      bool
	}{
		{0, 0, 0, false}, {1, 0, 0, false}, {3, 0, 0, false}, {4, 2, 4, true}, {5, 3, 6, true}, {6, 6, 9, true}, {7, 3, 5, true},
		{8, 0, 0, false}, {-1, 0, 0, false}, {least, 0, 0, false}, {most, 0, 0, false},
	} {
		if a, b, isAnd := g.Fan(x.node); a != x.a || b != x.b || isAnd != x.isAnd {
			t.Errorf("P21.2: node %d: %d, %d, %v", x.node, a, b, isAnd)
		}
	}
}

// TestP21_2Graphs: graphs do not depend on each other.
func TestP21_2Graphs(t *testing.T) {
	a, b := small(), small()
	must(a.And(4, 6))
	must(a.Input())
	before := showGraph(a)
	if lit := must(b.And(6, 9)); lit != 12 || b.Len() != 8 {
		t.Errorf("P21.2: %d, %d nodes", lit, b.Len())
	}
	if lit := must(b.And(9, 4)); lit != 16 {
		t.Errorf("P21.2: %d", lit)
	}
	if showGraph(a) != before {
		t.Errorf("P21.2: %s, not %s", showGraph(a), before)
	}
}
