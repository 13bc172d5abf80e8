package aig_test

import (
	"slices"
	"testing"

	"sluicegate/aig"
)

// anyGraph returns a graph of inputs and ANDs.
func anyGraph(pick func(n int) int, size int) *aig.Graph {
	g := aig.New()
	for g.Len() < size {
		if g.Inputs() == 0 || pick(4) == 0 {
			must(g.Input())
		} else {
			must(g.And(pick(2*g.Len()), pick(2*g.Len())))
		}
	}
	return g
}

// valueOf returns the value of a literal by its definition.
func valueOf(g *aig.Graph, inputs []bool, numbers map[int]int, lit int) bool {
	if lit%2 == 1 {
		return !valueOf(g, inputs, numbers, lit-1)
	}
	if a, b, isAnd := g.Fan(lit / 2); isAnd {
		return valueOf(g, inputs, numbers, a) && valueOf(g, inputs, numbers, b)
	}
	number, isInput := numbers[lit]
	return isInput && number < len(inputs) && inputs[number]
}

// TestP21_3AnyEval: with all inputs, with some that are missing, and with more of
// them than there are.
func TestP21_3AnyEval(t *testing.T) {
	pick := chooser(21, 3)
	for range 300 {
		g := anyGraph(pick, 2+pick(25))
		numbers := map[int]int{}
		for i := 1; i < g.Len(); i++ {
			if _, _, isAnd := g.Fan(i); !isAnd {
				numbers[2*i] = len(numbers)
			}
		}
		inputs := make([]bool, pick(g.Inputs()+3))
		for i := range inputs {
			inputs[i] = pick(2) == 0
		}
		before := show(inputs) + showGraph(g)
		vals := g.Eval(inputs...)
		if len(vals) != g.Len() || show(inputs)+showGraph(g) != before {
			t.Fatalf("P21.3: %d values of %d nodes, inputs %v", len(vals), g.Len(), inputs)
		}
		for lit := range 2 * g.Len() {
			want := valueOf(g, inputs, numbers, lit)
			if aig.Is(vals, lit) != want || lit%2 == 0 && vals[lit/2] != want {
				t.Fatalf("P21.3: literal %d is not %v, inputs %v\n%s", lit, want, inputs, showGraph(g))
			}
		}
	}
}

func TestP21_3Eval(t *testing.T) {
	g, x := withInputs(2)
	and := must(g.And(x[0], aig.Not(x[1])))
	last := must(g.Input())
	must(g.And(and, last))
	for _, y := range []struct {
		inputs []bool
		want   []bool
	}{
		{nil, []bool{false, false, false, false, false, false}},
		{[]bool{true}, []bool{false, true, false, true, false, false}},
		{[]bool{true, true}, []bool{false, true, true, false, false, false}},
		{[]bool{true, false, true}, []bool{false, true, false, true, true, true}},
		{[]bool{false, true, true, true, true}, []bool{false, false, true, false, true, false}},
	} {
		if vals := g.Eval(y.inputs...); !slices.Equal(vals, y.want) {
			t.Errorf("P21.3: %v: %v, not %v", y.inputs, vals, y.want)
		}
	}
	if vals := aig.New().Eval(true); !slices.Equal(vals, []bool{false}) {
		t.Errorf("P21.3: %v", vals)
	}
	first := g.Eval(true, true)
	clear(first)
	if vals := g.Eval(true, true); !vals[1] || !vals[2] {
		t.Errorf("P21.3: %v", vals)
	}
}

// TestP21_3Is: literals that do not exist are false.
func TestP21_3Is(t *testing.T) {
	vals := []bool{false, true, false}
	for lit, want := range []bool{false, true, true, false, false, true, false, false} {
		if aig.Is(vals, lit) != want {
			t.Errorf("P21.3: literal %d is not %v", lit, want)
		}
	}
	for _, lit := range []int{least, least + 1, -2, -1, 100, 101, most - 1, most} {
		if aig.Is(vals, lit) || aig.Is(nil, lit) {
			t.Errorf("P21.3: %d is true", lit)
		}
	}
	if aig.Is(nil, aig.Yes) || aig.Is([]bool{}, aig.No) || show(vals) != "[false true false]" {
		t.Error("P21.3: a literal without values")
	}
}

// coneOf returns the nodes on which literals depend by definition.
func coneOf(g *aig.Graph, lits []int) []int {
	var cone []int
	for _, lit := range lits {
		if i := lit / 2; lit >= 2 && lit < 2*g.Len() && !slices.Contains(cone, i) {
			cone = append(cone, i)
		}
	}
	for at := 0; at < len(cone); at++ {
		a, b, isAnd := g.Fan(cone[at])
		for _, lit := range []int{a, b} {
			if isAnd && !slices.Contains(cone, lit/2) {
				cone = append(cone, lit/2)
			}
		}
	}
	slices.Sort(cone)
	return cone
}

func TestP21_3AnyCone(t *testing.T) {
	pick := chooser(21, 4)
	smaller := 0
	for range 2000 {
		g := anyGraph(pick, 1+pick(25))
		var lits []int
		for range pick(4) {
			lits = append(lits, pick(2*g.Len()))
		}
		if pick(3) == 0 {
			lits = append(lits, []int{least, -2, -1, 2 * g.Len(), 2*g.Len() + 1, most}[pick(6)])
			lits = append(lits, lits...)
		}
		text := show(lits) + showGraph(g)
		cone := g.Cone(lits...)
		if show(cone) != show(coneOf(g, lits)) || show(lits)+showGraph(g) != text {
			t.Fatalf("P21.3: %v of %v, not %v\n%s", cone, lits, coneOf(g, lits), text)
		}
		if len(cone) > 0 && len(cone) < g.Len()/2 {
			smaller++
		}
	}
	if smaller < 300 {
		t.Errorf("P21.3: only %d cones are small", smaller)
	}
}

func TestP21_3Cones(t *testing.T) {
	g := small()
	for _, x := range []struct {
		lits []int
		want string
	}{
		{nil, "[]"}, {[]int{aig.No}, "[]"}, {[]int{aig.Yes, -1, 16, 17}, "[]"}, {[]int{2}, "[1]"}, {[]int{3, 2, 3}, "[1]"}, {[]int{8}, "[1 2 4]"}, {[]int{9}, "[1 2 4]"},
		{[]int{10}, "[1 3 5]"}, {[]int{12}, "[1 2 3 4 6]"}, {[]int{15, 6}, "[1 2 3 7]"}, {[]int{13, 14, least}, "[1 2 3 4 6 7]"}, {[]int{6, 4}, "[2 3]"},
	} {
		if cone := g.Cone(x.lits...); show(cone) != x.want {
			t.Errorf("P21.3: %v: %v, not %s", x.lits, cone, x.want)
		}
	}
	cone := g.Cone(12)
	clear(cone)
	if again := g.Cone(12); show(again) != "[1 2 3 4 6]" {
		t.Errorf("P21.3: %v", again)
	}
}

// TestP21_3Deep: a long chain.
func TestP21_3Deep(t *testing.T) {
	g, x := withInputs(1)
	last, inputs := x[0], []bool{true}
	for g.Len() < 59998 {
		last = must(g.And(aig.Not(last), must(g.Input())))
		inputs = append(inputs, true)
	}
	if cone := g.Cone(last); len(cone) != g.Len()-1 || cone[0] != 1 || cone[1] != 2 {
		t.Errorf("P21.3: %d nodes", len(cone))
	}
	if want := len(inputs)%2 == 1; aig.Is(g.Eval(inputs...), last) != want {
		t.Errorf("P21.3: the end of the chain is not %v", want)
	}
}
