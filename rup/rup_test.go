package rup_test

import (
	"math/rand/v2"
	"slices"
	"testing"

	"sluicegate/api"
	"sluicegate/cnf"
	"sluicegate/rup"
)

// square is the formula of the chapter's example: it has no model, but unit
// propagation does nothing without assumptions.
func square() [][]int { return [][]int{{1, 2}, {1, -2}, {-1, 2}, {-1, -2}} }

func TestP5_1Follows(t *testing.T) {
	for _, x := range []struct {
		vars    int
		clauses [][]int
		lits    []int
		want    bool
	}{
		{0, nil, nil, false},
		{0, [][]int{nil}, nil, true},
		{3, nil, nil, false},
		{3, nil, []int{1}, false},
		{3, nil, []int{1, 2, 3, 1}, false},
		{3, nil, []int{1, -1}, true},
		{3, nil, []int{-2, 3, 1, 2}, true},
		{3, [][]int{nil}, nil, true},
		{3, [][]int{{1, 2}, nil, {3}}, []int{-3, -2}, true},
		{3, [][]int{{1}}, nil, false},
		{3, [][]int{{1}}, []int{1}, true},
		{3, [][]int{{1}}, []int{1, 1}, true},
		{3, [][]int{{1}}, []int{-1}, false},
		{3, [][]int{{1}}, []int{-1, 1}, true},
		{3, [][]int{{1}}, []int{2, 1}, true},
		{3, [][]int{{1}, {-1}}, nil, true},
		{3, [][]int{{1}, {-1}}, []int{2}, true},
		{3, [][]int{{1, 2}}, []int{1}, false},
		{3, [][]int{{1, 2}}, []int{1, 2}, true},
		{3, [][]int{{1, 2}}, []int{2, 2, 1}, true},
		{3, [][]int{{1, 2}}, []int{-1, -2}, false},
		{3, [][]int{{1, 2, 3}}, []int{3, 2}, false},
		{3, [][]int{{1, 2, 3}}, []int{3, 1, 2}, true},
		{3, [][]int{{-1, 2}, {-2, 3}}, []int{-1, 3}, true},
		{3, [][]int{{-1, 2}, {-2, 3}}, []int{1, -3}, false},
		{3, [][]int{{-1, 2}, {-2, 3}}, []int{3}, false},
		{3, square(), nil, false},
		{3, square(), []int{1}, true},
		{3, square(), []int{-2}, true},
		{3, square(), []int{3}, false},
	} {
		if got := rup.Follows(formula(t, x.vars, x.clauses...), x.lits...); got != x.want {
			t.Errorf("P5.1: %v: Follows(%v) = %v", x.clauses, x.lits, got)
		}
	}
}

// TestP5_1FollowsNeedsLiterals has formulas from which all clauses follow.
func TestP5_1FollowsNeedsLiterals(t *testing.T) {
	for _, vars := range []int{0, 1, 5, api.MaxVars} {
		for _, lits := range [][]int{nil, {vars}} {
			c := formula(t, vars, nil)
			if vars > 0 {
				mustAdd(t, c, lits...)
			}
			for _, none := range foreign(vars) {
				if rup.Follows(c, none) {
					t.Errorf("P5.1: %d variables: Follows(%d)", vars, none)
				}
				if vars > 0 && (rup.Follows(c, 1, none) || rup.Follows(c, none, -1) || rup.Follows(c, 1, -1, none) || rup.Follows(c, none, 1, -1)) {
					t.Errorf("P5.1: %d variables: Follows(.. %d ..)", vars, none)
				}
				if rup.Follows(c, none, -none) || rup.Follows(c, none, none) {
					t.Errorf("P5.1: %d variables: Follows(%d, %d)", vars, none, -none)
				}
			}
		}
		if vars > 0 && (!rup.Follows(cnf.New(vars), vars, -vars) || rup.Follows(cnf.New(vars), vars)) {
			t.Errorf("P5.1: Follows(%d)", vars)
		}
	}
}

func TestP5_1NoFormula(t *testing.T) {
	if rup.Follows(nil) || rup.Follows(nil, 1) || rup.Follows(nil, 1, -1) {
		t.Errorf("P5.1: Follows without a formula")
	}
	if lits, ok := rup.Fixed(nil); len(lits) != 0 || !ok {
		t.Errorf("P5.1: Fixed without a formula: %v, %v", lits, ok)
	}
	if at, err := rup.Check(nil, nil); at != 0 || err != api.ErrProof {
		t.Errorf("P5.2: Check without a formula: %d, error %d", at, err)
	}
}

// TestP5_1EveryFormulaOfTwoVariables covers all sets of the nine clauses, and
// all lists of up to two numbers.
func TestP5_1EveryFormulaOfTwoVariables(t *testing.T) {
	clauses := [][]int{{}, {1}, {-1}, {2}, {-2}, {1, 2}, {1, -2}, {-1, 2}, {-1, -2}}
	lists := [][]int{{}}
	for a := -3; a <= 3; a++ {
		lists = append(lists, []int{a})
		for b := -3; b <= 3; b++ {
			lists = append(lists, []int{a, b})
		}
	}
	for set := range 1 << len(clauses) {
		var some [][]int
		for i, lits := range clauses {
			if set>>i&1 == 1 {
				some = append(some, lits)
			}
		}
		c := formula(t, 2, some...)
		for _, lits := range lists {
			if got, want := rup.Follows(c, lits...), followsFrom(2, some, lits); got != want {
				t.Errorf("P5.1: %v: Follows(%v) = %v", some, lits, got)
			}
		}
		mustFix(t, c)
	}
}

func TestP5_1SomeFormulas(t *testing.T) {
	r := rand.New(rand.NewPCG(5, 1))
	count := map[bool]int{}
	for range 3000 {
		vars := 1 + r.IntN(12)
		c := someFormula(t, r, vars)
		for range 5 {
			lits := someClause(r, vars, 4)
			got := rup.Follows(c, lits...)
			if got != followsFrom(vars, clausesOf(c), lits) {
				t.Errorf("P5.1: %q: Follows(%v) = %v", c.Text(), lits, got)
			}
			count[got]++
		}
		mustFix(t, c)
	}
	if count[true] < 3000 || count[false] < 3000 {
		t.Errorf("P5.1: the results are not mixed: %v", count)
	}
}

// mustFix fails unless Fixed returns what the chapter says.
func mustFix(t *testing.T, c *cnf.Cnf) {
	t.Helper()
	values, consistent := propagated(clausesOf(c))
	var want []int
	for v := 1; v <= c.Vars() && consistent; v++ {
		if positive, assigned := values[v]; assigned && positive {
			want = append(want, v)
		} else if assigned {
			want = append(want, -v)
		}
	}
	if got, ok := rup.Fixed(c); ok != consistent || !slices.Equal(got, want) {
		t.Errorf("P5.1: %q: Fixed = %v, %v; want %v, %v", c.Text(), got, ok, want, consistent)
	}
}

func TestP5_1Fixed(t *testing.T) {
	for _, x := range []struct {
		vars    int
		clauses [][]int
		want    []int
		ok      bool
	}{
		{0, nil, nil, true},
		{0, [][]int{nil}, nil, false},
		{3, nil, nil, true},
		{3, [][]int{{1}, nil}, nil, false},
		{3, [][]int{{-2}}, []int{-2}, true},
		{3, [][]int{{3}, {-1}, {2}}, []int{-1, 2, 3}, true},
		{3, [][]int{{-3}, {-3}, {-3, 1}}, []int{-3}, true},
		{3, [][]int{{3, -3}, {2, 1}}, nil, true},
		{3, [][]int{{-3, 2}, {-2, -1}, {3}}, []int{-1, 2, 3}, true},
		{3, [][]int{{-3, 2}, {-2, -1}, {3}, {1}}, nil, false},
		{3, [][]int{{1, 2, 3}, {-1}, {-3}}, []int{-1, 2, -3}, true},
		{3, [][]int{{1, 2, 3}, {-1}, {-3}, {-2}}, nil, false},
		{3, square(), nil, true},
		{3, append(square(), []int{-2}), nil, false},
	} {
		got, ok := rup.Fixed(formula(t, x.vars, x.clauses...))
		if !slices.Equal(got, x.want) || ok != x.ok {
			t.Errorf("P5.1: %v: Fixed = %v, %v", x.clauses, got, ok)
		}
	}
}

func TestP5_1LargeFormulas(t *testing.T) {
	const last = api.MaxVars
	c := chain(t, last)
	if !rup.Follows(c, -1, last) || rup.Follows(c, 1, -last) || rup.Follows(c, -2, 1) {
		t.Errorf("P5.1: Follows from a chain")
	}
	if lits, ok := rup.Fixed(c); len(lits) != 0 || !ok {
		t.Errorf("P5.1: %d literals are fixed, %v", len(lits), ok)
	}
	mustAdd(t, c, 1)
	lits, ok := rup.Fixed(c)
	if len(lits) != last || !slices.IsSorted(lits) || lits[0] != 1 || !ok {
		t.Errorf("P5.1: %d literals are fixed, %v", len(lits), ok)
	}
	if rup.Follows(c) || !rup.Follows(c, last) {
		t.Errorf("P5.1: Follows from a chain that begins")
	}
	mustAdd(t, c, -last)
	if lits, ok := rup.Fixed(c); len(lits) != 0 || ok || !rup.Follows(c) {
		t.Errorf("P5.1: %d literals are fixed, %v", len(lits), ok)
	}
	var all []int
	for v := 1; v <= last; v++ {
		all = append(all, -v, -v)
	}
	if rup.Follows(chain(t, last), all...) || !rup.Follows(chain(t, last), append(all, 1)...) {
		t.Errorf("P5.1: Follows for many literals")
	}
}

// TestP5_1ArgumentsAreOnlyRead also looks at what is behind the literals.
func TestP5_1ArgumentsAreOnlyRead(t *testing.T) {
	r := rand.New(rand.NewPCG(5, 2))
	for range 300 {
		c := someFormula(t, r, 6)
		text := c.Text()
		whole := append(someClause(r, 6, 5), 6, -6, 1)
		lits := whole[:len(whole)-3]
		before := slices.Clone(whole)
		follows := rup.Follows(c, lits...)
		fixed, ok := rup.Fixed(c)
		want := slices.Clone(fixed)
		clear(fixed[:cap(fixed)])
		again, stillOK := rup.Fixed(c)
		if !slices.Equal(again, want) || stillOK != ok || rup.Follows(c, lits...) != follows {
			t.Errorf("P5.1: %q: Fixed is first %v, then %v", text, want, again)
		}
		if c.Text() != text || !slices.Equal(whole, before) {
			t.Errorf("P5.1: %q: the arguments change: %v", text, whole)
		}
	}
}
