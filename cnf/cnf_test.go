package cnf_test

import (
	"math"
	"math/rand/v2"
	"slices"
	"testing"

	"sluicegate/api"
	"sluicegate/cnf"
)

func TestP3_1NewCountsAsTheNearest(t *testing.T) {
	for vars, want := range map[int]int{
		math.MinInt: 0, -1: 0, 0: 0, 1: 1, 17: 17, 59999: 59999, 60000: 60000, 60001: 60000, math.MaxInt: 60000,
	} {
		mustHave(t, cnf.New(vars), want)
	}
}

func TestP3_1Var(t *testing.T) {
	c := cnf.New(0)
	for n := 1; n <= api.MaxVars; n++ {
		if v, err := c.Var(); v != n || err != api.OK || c.Vars() != n {
			t.Fatalf("P3.1: Var number %d: %d, error %d, Vars %d", n, v, err, c.Vars())
		}
	}
	for range 2 {
		if v, err := c.Var(); v != 0 || err != api.ErrLimit || c.Vars() != api.MaxVars {
			t.Errorf("P3.1: Var beyond the limit: %d, error %d, Vars %d", v, err, c.Vars())
		}
	}
	if err := c.Add(-api.MaxVars, 1); err != api.OK {
		t.Errorf("P3.1: Add of the last variable: error %d", err)
	}
	mustHave(t, c, api.MaxVars, []int{1, -api.MaxVars})
}

func TestP3_1VarMakesLiteralsValid(t *testing.T) {
	c := cnf.New(1)
	if c.Add(2) != api.ErrRange || c.Add(-2) != api.ErrRange {
		t.Errorf("P3.1: Add accepts a variable that does not exist")
	}
	if v, err := c.Var(); v != 2 || err != api.OK {
		t.Errorf("P3.1: Var: %d, error %d", v, err)
	}
	if c.Add(2) != api.OK || c.Add(-2) != api.OK || c.Add(3) != api.ErrRange {
		t.Errorf("P3.1: Add after Var")
	}
	mustHave(t, c, 2, []int{2}, []int{-2})
}

func TestP3_1AddStoresInOrder(t *testing.T) {
	for _, x := range []struct{ lits, want []int }{
		{nil, nil},
		{[]int{3}, []int{3}},
		{[]int{-3, -3, -3}, []int{-3}},
		{[]int{2, -1, 2}, []int{-1, 2}},
		{[]int{9, 8, 7, 6, 5, 4, 3, 2, 1}, []int{1, 2, 3, 4, 5, 6, 7, 8, 9}},
		{[]int{-1, -2, -3, 4}, []int{-1, -2, -3, 4}},
		{[]int{4, -9, 1, -9, -10, 4}, []int{1, 4, -9, -10}},
	} {
		mustHave(t, formula(t, 10, x.lits), 10, x.want)
	}
}

func TestP3_1AddKeepsEachClause(t *testing.T) {
	mustHave(t, formula(t, 2, []int{2, 1}, []int{1, 2}, nil, []int{-2}, nil), 2,
		[]int{1, 2}, []int{1, 2}, nil, []int{-2}, nil)
}

func TestP3_1AddLeavesOutWhatAlwaysHolds(t *testing.T) {
	c := cnf.New(5)
	for _, lits := range [][]int{{1, -1}, {-1, 1}, {5, 1, 2, -5}, {3, 3, -3, -3}, {-2, 4, 4, 2, 1}} {
		if err := c.Add(lits...); err != api.OK || c.Len() != 0 {
			t.Errorf("P3.1: Add(%v): error %d, %d clauses", lits, err, c.Len())
		}
	}
}

func TestP3_1AddOfLiteralsThatDoNotExist(t *testing.T) {
	for _, vars := range []int{0, 1, 4, api.MaxVars} {
		c := cnf.New(vars)
		for _, lit := range []int{0, vars + 1, -vars - 1, math.MaxInt, math.MinInt, -math.MaxInt, 1 << 32, 1<<32 + 1} {
			for _, lits := range [][]int{{lit}, {lit, lit}, append(upTo(vars), lit), {lit, -lit}, {1, -1, lit}} {
				if err := c.Add(lits...); err != api.ErrRange {
					t.Errorf("P3.1: Add of %d with %d variables: error %d", lit, vars, err)
				}
			}
		}
		mustHave(t, c, vars)
	}
}

func TestP3_1AddOfManyLiterals(t *testing.T) {
	c := cnf.New(1001)
	same := slices.Repeat([]int{-7}, 1001)
	opposite := slices.Repeat([]int{1, -1}, 501)
	for _, lits := range [][]int{upTo(1001), same, opposite[:1001], opposite} {
		if err := c.Add(lits...); err != api.ErrLimit || c.Len() != 0 {
			t.Errorf("P3.1: Add of %d literals: error %d, %d clauses", len(lits), err, c.Len())
		}
	}
	if err := c.Add(append(upTo(1001), 1002)...); err != api.ErrRange {
		t.Errorf("P3.1: Add of too many literals, and an invalid one: error %d", err)
	}
	for _, lits := range [][]int{upTo(1000), same[:1000], opposite[:1000]} {
		if err := c.Add(lits...); err != api.OK {
			t.Errorf("P3.1: Add of 1000 literals: error %d", err)
		}
	}
	mustHave(t, c, 1001, upTo(1000), []int{-7})
}

func TestP3_1AddOfManyClauses(t *testing.T) {
	c := cnf.New(3)
	for i := range api.MaxClauses {
		if err := c.Add(1+i%3, -(1 + (i+1)%3)); err != api.OK {
			t.Fatalf("P3.1: Add of clause %d: error %d", i, err)
		}
		if c.Add(2, -2) != api.OK && i < api.MaxClauses-1 {
			t.Fatalf("P3.1: after clause %d, Add(2, -2) fails", i)
		}
	}
	for _, lits := range [][]int{{1}, {}, {1, -1}, slices.Repeat([]int{1}, 1001)} {
		if err := c.Add(lits...); err != api.ErrLimit || c.Len() != api.MaxClauses {
			t.Errorf("P3.1: Add beyond the limit: error %d, %d clauses", err, c.Len())
		}
	}
	if err := c.Add(4); err != api.ErrRange {
		t.Errorf("P3.1: Add of an invalid literal beyond the limit: error %d", err)
	}
	for _, i := range []int{0, 1, 2, 99999, api.MaxClauses - 1} {
		want := []int{1 + i%3, -(1 + (i+1)%3)}
		slices.SortFunc(want, func(a, b int) int { return magnitude(a) - magnitude(b) })
		if got := c.Clause(i); !slices.Equal(got, want) {
			t.Errorf("P3.1: clause %d: %v, want %v", i, got, want)
		}
	}
}

func TestP3_1AddOnlyReadsItsArguments(t *testing.T) {
	c := cnf.New(9)
	whole := []int{5, -3, 5, 1, 9, 8, 7}
	lits := whole[:4]
	if err := c.Add(lits...); err != api.OK {
		t.Fatalf("P3.1: Add: error %d", err)
	}
	if !slices.Equal(whole, []int{5, -3, 5, 1, 9, 8, 7}) {
		t.Errorf("P3.1: Add changes its arguments: %v", whole)
	}
	clear(whole)
	mustHave(t, c, 9, []int{1, -3, 5})
}

func TestP3_1ClauseIsACopy(t *testing.T) {
	c := formula(t, 3, []int{1, 2}, []int{3}, nil, []int{-1})
	for i := range c.Len() {
		got := c.Clause(i)
		clear(got)
		_ = append(got, 2, 2)
	}
	mustHave(t, c, 3, []int{1, 2}, []int{3}, nil, []int{-1})
	for _, i := range []int{-1, 4, math.MinInt, math.MaxInt} {
		if got := c.Clause(i); len(got) != 0 {
			t.Errorf("P3.1: Clause(%d): %v", i, got)
		}
	}
}

func TestP3_1Holds(t *testing.T) {
	for _, x := range []struct {
		clauses [][]int
		model   []bool
		want    bool
	}{
		{nil, nil, true},
		{nil, []bool{true, true, true, true, true}, true},
		{[][]int{nil}, nil, false},
		{[][]int{nil}, []bool{true, true, true}, false},
		{[][]int{{1}, nil, {2}}, []bool{true, true}, false},
		{[][]int{{1}}, nil, false},
		{[][]int{{-1}}, nil, true},
		{[][]int{{3}}, []bool{true, true}, false},
		{[][]int{{-3}}, []bool{true, true}, true},
		{[][]int{{3}}, []bool{false, false, true}, true},
		{[][]int{{-3}}, []bool{false, false, true}, false},
		{[][]int{{3}}, []bool{false, false, true, false, false}, true},
		{[][]int{{1, 2}, {-1, 3}}, []bool{true, false, true}, true},
		{[][]int{{1, 2}, {-1, 3}}, []bool{true, false, false}, false},
		{[][]int{{1, 2}, {-1, 3}}, []bool{false, true}, true},
	} {
		if got := formula(t, 3, x.clauses...).Holds(x.model...); got != x.want {
			t.Errorf("P3.1: Holds of %v in %v: %v", x.clauses, x.model, got)
		}
	}
}

// truth determines in another way than Holds whether all clauses hold.
func truth(clauses [][]int, model []bool) bool {
	for _, lits := range clauses {
		count := 0
		for _, lit := range lits {
			value := magnitude(lit) <= len(model) && model[magnitude(lit)-1]
			if value && lit > 0 || !value && lit < 0 {
				count++
			}
		}
		if count == 0 {
			return false
		}
	}
	return true
}

func TestP3_1AddAndHoldsAgree(t *testing.T) {
	r := rand.New(rand.NewPCG(3, 1))
	for range 3000 {
		vars := 1 + r.IntN(6)
		c := cnf.New(vars)
		var clauses [][]int
		for range r.IntN(8) {
			clauses = append(clauses, someClause(r, vars, 5))
			if err := c.Add(clauses[len(clauses)-1]...); err != api.OK {
				t.Fatalf("P3.1: Add(%v): error %d", clauses[len(clauses)-1], err)
			}
		}
		for number := range 1 << vars {
			model := make([]bool, vars)
			for i := range model {
				model[i] = number>>i&1 == 1
			}
			model = model[:r.IntN(vars+1)]
			if c.Holds(model...) != truth(clauses, model) {
				t.Fatalf("P3.1: %v in %v", clauses, model)
			}
		}
	}
}

func TestP3_3Clone(t *testing.T) {
	a := formula(t, 3, []int{1, 2}, nil, []int{-3})
	b := a.Clone()
	mustHave(t, b, 3, []int{1, 2}, nil, []int{-3})
	if a.Add(1) != api.OK || b.Add(2) != api.OK || b.Add(3) != api.OK {
		t.Errorf("P3.3: Add after Clone")
	}
	if v, err := b.Var(); v != 4 || err != api.OK {
		t.Errorf("P3.3: Var after Clone: %d, error %d", v, err)
	}
	mustHave(t, a, 3, []int{1, 2}, nil, []int{-3}, []int{1})
	mustHave(t, b, 4, []int{1, 2}, nil, []int{-3}, []int{2}, []int{3})
	if a.Add(4) != api.ErrRange || b.Add(4) != api.OK {
		t.Errorf("P3.3: the variable of the copy")
	}
}

// TestP3_3CloneSharesNoCapacity adds clauses of many lengths to a formula and
// to two copies of it in turn, so that shared memory would be overwritten.
func TestP3_3CloneSharesNoCapacity(t *testing.T) {
	for length := range 40 {
		common := slices.Repeat([][]int{{1}}, length)
		a := formula(t, 3, common...)
		b, c := a.Clone(), a.Clone()
		for _, x := range []*cnf.Cnf{a, b, c} {
			for i := range 3 {
				if x.Add(-(1+i), 1+(i+1)%3) != api.OK {
					t.Fatalf("P3.3: Add")
				}
			}
		}
		if a.Add(1) != api.OK || b.Add(2, 3) != api.OK || c.Add(1, 2, 3) != api.OK {
			t.Fatalf("P3.3: Add")
		}
		common = append(common, []int{-1, 2}, []int{-2, 3}, []int{1, -3})
		mustHave(t, a, 3, append(slices.Clone(common), []int{1})...)
		mustHave(t, b, 3, append(slices.Clone(common), []int{2, 3})...)
		mustHave(t, c, 3, append(slices.Clone(common), []int{1, 2, 3})...)
	}
}

func TestP3_3CloneOfAnEmptyFormula(t *testing.T) {
	a := cnf.New(0)
	b := a.Clone()
	if v, err := b.Var(); v != 1 || err != api.OK || b.Add(1) != api.OK {
		t.Errorf("P3.3: the copy: variable %d, error %d", v, err)
	}
	mustHave(t, a, 0)
	mustHave(t, b, 1, []int{1})
}

func TestP3_3CloneAtTheLimits(t *testing.T) {
	a := cnf.New(api.MaxVars)
	for range api.MaxClauses {
		if err := a.Add(api.MaxVars); err != api.OK {
			t.Fatalf("P3.3: Add: error %d", err)
		}
	}
	b := a.Clone()
	if b.Vars() != api.MaxVars || b.Len() != api.MaxClauses || b.Add(1) != api.ErrLimit {
		t.Errorf("P3.3: %d variables, %d clauses", b.Vars(), b.Len())
	}
	if v, err := b.Var(); v != 0 || err != api.ErrLimit {
		t.Errorf("P3.3: Var: %d, error %d", v, err)
	}
	if !b.Holds(append(make([]bool, api.MaxVars-1), true)...) || b.Holds() {
		t.Errorf("P3.3: Holds")
	}
}

// TestP3_1NoFormula calls everything for what Parse returns with an error.
func TestP3_1NoFormula(t *testing.T) {
	c, at, err := cnf.Parse("")
	if c != nil || at != 1 || err != api.ErrForm {
		t.Fatalf("P3.1: Parse: %v, %d, error %d", c, at, err)
	}
	if v, err := c.Var(); v != 0 || err != api.ErrLimit {
		t.Errorf("P3.1: Var: %d, error %d", v, err)
	}
	if c.Add() != api.ErrLimit || c.Add(1) != api.ErrRange {
		t.Errorf("P3.1: Add")
	}
	mustHave(t, c, 0)
	mustHave(t, c.Clone(), 0)
	if !c.Holds() || len(c.Clause(0)) != 0 || c.Text() != "p cnf 0 0\n" {
		t.Errorf("P3.1: %q", c.Text())
	}
}
