package blast_test

import (
	"math/big"
	"testing"

	"sluicegate/aig"
	"sluicegate/api"
	"sluicegate/blast"
	"sluicegate/sample"
)

// inputsOf returns the literals of so many new inputs.
func inputsOf(t *testing.T, g *aig.Graph, count int) []int {
	t.Helper()
	var list []int
	for range count {
		lit, err := g.Input()
		if err != api.OK {
			t.Fatalf("P21.1: error %d", err)
		}
		list = append(list, lit)
	}
	return list
}

// mustAdd returns a sum for which there is room.
func mustAdd(t *testing.T, g *aig.Graph, a, b []int, carry int) []int {
	t.Helper()
	before := show(a) + show(b)
	list, err := blast.Add(g, a, b, carry)
	if err != api.OK || len(list) != len(a) || show(a)+show(b) != before {
		t.Fatalf("P22.2: %v + %v + %d: %v, error %d", a, b, carry, list, err)
	}
	return list
}

// mustLess returns a comparison for which there is room.
func mustLess(t *testing.T, g *aig.Graph, a, b []int) int {
	t.Helper()
	before := show(a) + show(b)
	lit, err := blast.Less(g, a, b)
	if err != api.OK || show(a)+show(b) != before {
		t.Fatalf("P22.2: %v < %v: %d, error %d", a, b, lit, err)
	}
	return lit
}

// valueOf returns the number that literals are.
func valueOf(vals []bool, lits []int) *big.Int {
	n := new(big.Int)
	for i, lit := range lits {
		if aig.Is(vals, lit) {
			n.SetBit(n, i, 1)
		}
	}
	return n
}

// mustBeNumbers fails unless a sum and a comparison are what they should be.
func mustBeNumbers(t *testing.T, vals []bool, a, b []int, carry int, sum []int, less int) {
	t.Helper()
	x, y := valueOf(vals, a), valueOf(vals, b)
	if aig.Is(vals, less) != (x.Cmp(y) < 0) {
		t.Fatalf("P22.2: %v < %v is %v", x, y, aig.Is(vals, less))
	}
	want := new(big.Int).Add(x, y)
	want.Add(want, valueOf(vals, []int{carry}))
	want.SetBit(want, len(a), 0)
	if got := valueOf(vals, sum); got.Cmp(want) != 0 {
		t.Fatalf("P22.2: %v + %v + %v is %v, not %v", x, y, valueOf(vals, []int{carry}), got, want)
	}
}

// TestP22_2AllNumbers: all numbers of small widths, with each kind of carry.
func TestP22_2AllNumbers(t *testing.T) {
	for width := range 5 {
		g := aig.New()
		a, b := inputsOf(t, g, width), inputsOf(t, g, width)
		in := inputsOf(t, g, 1)[0]
		for _, carry := range []int{aig.No, aig.Yes, in, aig.Not(in)} {
			sum, less := mustAdd(t, g, a, b, carry), mustLess(t, g, a, b)
			for all := range 2 << (2 * width) {
				var inputs []bool
				for i := range 2*width + 1 {
					inputs = append(inputs, all>>i&1 == 1)
				}
				mustBeNumbers(t, g.Eval(inputs...), a, b, carry, sum, less)
			}
		}
	}
}

// bitsFrom returns bits that are often equal to others, or their negations.
func bitsFrom(pick sample.Choice, g *aig.Graph, width int) []int {
	list := make([]int, width)
	for i := range list {
		list[i] = pick(2 * g.Len())
		if pick(4) == 0 {
			list[i] = pick(2)
		}
	}
	return list
}

// TestP22_2AnyLiterals: literals of one graph, in which there are constants, and
// results of what came before.
func TestP22_2AnyLiterals(t *testing.T) {
	pick := chooser(22, 20)
	for range 400 {
		g := aig.New()
		inputsOf(t, g, 1+pick(4))
		for range 1 + pick(4) {
			width := pick(8)
			if pick(8) == 0 {
				width = 60 + pick(140)
			}
			a, b, carry := bitsFrom(pick, g, width), bitsFrom(pick, g, width), pick(2*g.Len())
			sum, less := mustAdd(t, g, a, b, carry), mustLess(t, g, a, b)
			for all := range 1 << g.Inputs() {
				var inputs []bool
				for i := range g.Inputs() {
					inputs = append(inputs, all>>i&1 == 1)
				}
				mustBeNumbers(t, g.Eval(inputs...), a, b, carry, sum, less)
			}
		}
	}
}

// TestP22_2Wide: numbers that are wider than any vector.
func TestP22_2Wide(t *testing.T) {
	pick := chooser(22, 21)
	for _, width := range []int{63, 64, 65, api.MaxWidth, api.MaxWidth + 1, 1000} {
		g := aig.New()
		a, b := inputsOf(t, g, width), inputsOf(t, g, width)
		carry := inputsOf(t, g, 1)[0]
		sum, less := mustAdd(t, g, a, b, carry), mustLess(t, g, a, b)
		for range 50 {
			inputs := make([]bool, 2*width+1)
			for i := range width {
				inputs[i] = pick(2) == 0
				inputs[width+i] = inputs[i] == (pick(width) > 2)
			}
			inputs[2*width] = pick(2) == 0
			mustBeNumbers(t, g.Eval(inputs...), a, b, carry, sum, less)
		}
	}
}

// TestP22_2None: numbers without bits.
func TestP22_2None(t *testing.T) {
	g := aig.New()
	for _, carry := range []int{aig.No, aig.Yes} {
		if list := mustAdd(t, g, nil, []int{}, carry); len(list) != 0 || g.Len() != 1 {
			t.Errorf("P22.2: %v, %d nodes", list, g.Len())
		}
	}
	if lit := mustLess(t, g, nil, nil); lit != aig.No || g.Len() != 1 {
		t.Errorf("P22.2: %d, %d nodes", lit, g.Len())
	}
}

// full returns a graph with inputs that has room for so many nodes.
func full(t *testing.T, room int) *aig.Graph {
	t.Helper()
	g := aig.New()
	inputsOf(t, g, api.MaxGates-1-room)
	return g
}

// mustNotAdd fails unless Add returns an error and leaves the graph as it is.
func mustNotAdd(t *testing.T, what string, g *aig.Graph, a, b []int, carry int, want api.Errno) {
	t.Helper()
	before := showGraph(g)
	if list, err := blast.Add(g, a, b, carry); err != want || len(list) != 0 || showGraph(g) != before {
		t.Errorf("P22.2: %s: Add(%v, %v, %d): %v, error %d, not %d, %d nodes", what, a, b, carry, list, err, want, g.Len())
	}
}

// mustFail is mustNotAdd for Less as well.
func mustFail(t *testing.T, what string, g *aig.Graph, a, b []int, want api.Errno) {
	t.Helper()
	mustNotAdd(t, what, g, a, b, aig.No, want)
	before := showGraph(g)
	if lit, err := blast.Less(g, a, b); err != want || lit != 0 || showGraph(g) != before {
		t.Errorf("P22.2: %s: Less(%v, %v): %d, error %d, not %d, %d nodes", what, a, b, lit, err, want, g.Len())
	}
}

// TestP22_2Errors: widths, literals and room, in this order.
func TestP22_2Errors(t *testing.T) {
	small := aig.New()
	inputsOf(t, small, 8)
	for what, g := range map[string]*aig.Graph{"a small graph": small, "a full graph": full(t, 0), "no graph": nil} {
		for _, x := range [][2]int{{0, 1}, {1, 0}, {3, 4}, {4, 3}, {1, 1000}} {
			a, b := make([]int, x[0]), make([]int, x[1])
			mustFail(t, what, g, a, b, api.ErrWidth)
			mustNotAdd(t, what, g, a, b, most, api.ErrWidth)
			mustFail(t, what, g, append(a, 2), append(b, -1), api.ErrWidth)
		}
		for _, lit := range []int{least, -1, 2 * g.Len(), 2*g.Len() + 1, most} {
			for at := range 3 {
				a, b := []int{2, 4, 6}, []int{12, 14, 16}
				a[at] = lit
				mustFail(t, what, g, a, b, api.ErrRange)
				mustFail(t, what, g, b, a, api.ErrRange)
			}
			mustNotAdd(t, what, g, []int{2}, []int{4}, lit, api.ErrRange)
			mustNotAdd(t, what, g, nil, nil, lit, api.ErrRange)
		}
	}
	mustFail(t, "a full graph", full(t, 0), []int{2}, []int{4}, api.ErrLimit)
}

// TestP22_2Room: exactly as many nodes as are permitted, and fewer. What exists
// needs no room.
func TestP22_2Room(t *testing.T) {
	a, b, carry := []int{2, 4, 7, 8}, []int{10, 13, 14, 16}, 18
	operations := map[string]func(g *aig.Graph) (string, api.Errno){
		"Add": func(g *aig.Graph) (string, api.Errno) {
			list, err := blast.Add(g, a, b, carry)
			return show(list), err
		},
		"Less": func(g *aig.Graph) (string, api.Errno) {
			lit, err := blast.Less(g, a, b)
			return show(lit), err
		},
	}
	nothing := map[string]string{"Add": "[]", "Less": "0"}
	for name, operation := range operations {
		g := aig.New()
		inputsOf(t, g, 9)
		operation(g)
		needed := g.Len() - 10
		for room := range 7*len(a) + 2 {
			g := full(t, room)
			before := showGraph(g)
			text, err := operation(g)
			if room >= needed {
				if again, fault := operation(g); err != api.OK || fault != api.OK || again != text || g.Len() != api.MaxGates-room+needed {
					t.Errorf("P22.2: %s: errors %d and %d, %d nodes", name, err, fault, g.Len())
				}
			} else if err != api.ErrLimit || text != nothing[name] || showGraph(g) != before {
				t.Errorf("P22.2: %s: error %d, %s, %d nodes, before %d", name, err, text, g.Len(), api.MaxGates-room)
			}
		}
	}
}

// TestP22_2Crowded: whatever a graph consists of, an operation for which there is not
// enough room leaves no nodes behind.
func TestP22_2Crowded(t *testing.T) {
	pick := chooser(22, 22)
	done, failed := 0, 0
	for range 10 {
		g := aig.New()
		inputsOf(t, g, 20)
		for g.Len() < api.MaxGates-60 {
			if _, err := g.And(pick(2*g.Len()), pick(2*g.Len())); err != api.OK {
				t.Fatalf("P21.1: error %d", err)
			}
		}
		for range 20 {
			width := pick(9)
			a, b, carry := bitsFrom(pick, g, width), bitsFrom(pick, g, width), pick(2*g.Len())
			before := g.Len()
			sum, err := blast.Add(g, a, b, carry)
			if err != api.OK && (err != api.ErrLimit || g.Len() != before || len(sum) != 0) {
				t.Fatalf("P22.2: error %d, %d nodes, before %d", err, g.Len(), before)
			}
			before = g.Len()
			less, fault := blast.Less(g, a, b)
			if fault != api.OK && (fault != api.ErrLimit || g.Len() != before || less != 0) {
				t.Fatalf("P22.2: error %d, %d nodes, before %d", fault, g.Len(), before)
			}
			if err != api.OK || fault != api.OK {
				failed++
				continue
			}
			done++
			inputs := make([]bool, 20)
			for i := range inputs {
				inputs[i] = pick(2) == 0
			}
			mustBeNumbers(t, g.Eval(inputs...), a, b, carry, sum, less)
		}
	}
	if done < 25 || failed < 50 {
		t.Errorf("P22.2: %d operations, and %d errors", done, failed)
	}
}

// TestP22_2Bits: no bit needs more than seven nodes.
func TestP22_2Bits(t *testing.T) {
	pick := chooser(22, 23)
	for range 500 {
		g := aig.New()
		inputsOf(t, g, 1+pick(20))
		width := 1 + pick(10)
		a, b, carry := bitsFrom(pick, g, width), bitsFrom(pick, g, width), pick(2*g.Len())
		before := g.Len()
		mustAdd(t, g, a, b, carry)
		between := g.Len()
		mustLess(t, g, a, b)
		if between-before > 7*width || g.Len()-between > 7*width {
			t.Fatalf("P22.2: %d nodes for %d bits", g.Len()-before, width)
		}
	}
}
