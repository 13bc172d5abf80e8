package sat_test

import (
	"math/rand/v2"
	"slices"
	"testing"

	"sluicegate/api"
	"sluicegate/cnf"
	"sluicegate/sat"
)

// formula returns a formula with these clauses.
func formula(t *testing.T, vars int, clauses ...[]int) *cnf.Cnf {
	t.Helper()
	c := cnf.New(vars)
	for _, lits := range clauses {
		mustAdd(t, c, lits...)
	}
	return c
}

func mustAdd(t *testing.T, c *cnf.Cnf, lits ...int) {
	t.Helper()
	if err := c.Add(lits...); err != api.OK {
		t.Fatalf("Add(%v): error %d", lits, err)
	}
}

// someFormula returns a formula whose clauses have at most the given length.
func someFormula(t *testing.T, r *rand.Rand, vars, clauses, least, most int) *cnf.Cnf {
	t.Helper()
	c := cnf.New(vars)
	for range clauses {
		var lits []int
		for range least + r.IntN(most-least+1) {
			lits = append(lits, (1+r.IntN(vars))*(1-2*r.IntN(2)))
		}
		mustAdd(t, c, lits...)
	}
	return c
}

// hasModel tries all values of the variables.
func hasModel(c *cnf.Cnf) bool {
	model := make([]bool, c.Vars())
	for number := range 1 << len(model) {
		for i := range model {
			model[i] = number>>i&1 == 1
		}
		if c.Holds(model...) {
			return true
		}
	}
	return false
}

// pigeons says that so many pigeons are in so many holes, one in each.
func pigeons(t *testing.T, birds, holes int) *cnf.Cnf {
	t.Helper()
	c := cnf.New(birds * holes)
	in := func(bird, hole int) int { return bird*holes + hole + 1 }
	for bird := range birds {
		var lits []int
		for hole := range holes {
			lits = append(lits, in(bird, hole))
			for other := range bird {
				mustAdd(t, c, -in(bird, hole), -in(other, hole))
			}
		}
		mustAdd(t, c, lits...)
	}
	return c
}

// ring says that the sums of neighbours in a circle are odd, which can be only
// if their number is even.
func ring(t *testing.T, vars int) *cnf.Cnf {
	t.Helper()
	c := cnf.New(vars)
	for i := range vars {
		a, b := i+1, (i+1)%vars+1
		mustAdd(t, c, a, b)
		mustAdd(t, c, -a, -b)
	}
	return c
}

// parities returns a formula that forces the sum of all variables, in triples
// that overlap, to be both even and odd.
func parities(t *testing.T, r *rand.Rand, inputs int) *cnf.Cnf {
	t.Helper()
	c := cnf.New(inputs)
	all := make([]int, inputs)
	for i := range all {
		all[i] = i + 1
	}
	first := total(t, c, all)
	r.Shuffle(len(all), func(i, j int) { all[i], all[j] = all[j], all[i] })
	second := total(t, c, all)
	mustAdd(t, c, first)
	mustAdd(t, c, -second)
	return c
}

// total returns the variable that is the sum, modulo 2, of others.
func total(t *testing.T, c *cnf.Cnf, vars []int) int {
	t.Helper()
	sum := vars[0]
	for _, v := range vars[1:] {
		next, err := c.Var()
		if err != api.OK {
			t.Fatalf("Var: error %d", err)
		}
		mustAdd(t, c, -sum, -v, -next)
		mustAdd(t, c, sum, v, -next)
		mustAdd(t, c, -sum, v, next)
		mustAdd(t, c, sum, -v, next)
		sum = next
	}
	return sum
}

// mustBeValid fails unless x is a valid result for c and the budget.
func mustBeValid(t *testing.T, c *cnf.Cnf, budget int, x sat.Result) {
	t.Helper()
	budget = max(budget, 0)
	if x.Conflicts < 0 || x.Conflicts > budget {
		t.Errorf("P4.3: %d conflicts, budget %d", x.Conflicts, budget)
	}
	switch x.Verdict {
	case sat.Sat:
		if len(x.Model) != c.Vars() || !c.Holds(x.Model...) || len(x.Proof) != 0 {
			t.Errorf("P4.1: %d values, %d clauses of proof; they hold: %v", len(x.Model), len(x.Proof), c.Holds(x.Model...))
		}
	case sat.Unsat:
		if at := firstInvalid(c, x.Proof); at != valid || len(x.Model) != 0 {
			t.Errorf("P4.2: clause %d of %d of the proof; %d values", at, len(x.Proof), len(x.Model))
		}
	case sat.Unknown:
		if x.Conflicts != budget || len(x.Model) != 0 || len(x.Proof) != 0 {
			t.Errorf("P4.3: unknown after %d conflicts, budget %d; %d values, %d clauses of proof", x.Conflicts, budget, len(x.Model), len(x.Proof))
		}
	default:
		t.Errorf("P4.1: verdict %d", x.Verdict)
	}
}

// mustSolve fails unless that is the verdict within the budget.
func mustSolve(t *testing.T, c *cnf.Cnf, budget, want int) sat.Result {
	t.Helper()
	x := sat.Solve(c, budget)
	if x.Verdict != want {
		t.Fatalf("P4.1: verdict %d, want %d: %d variables, %d clauses, budget %d", x.Verdict, want, c.Vars(), c.Len(), budget)
	}
	mustBeValid(t, c, budget, x)
	return x
}

// same reports whether two results are equal.
func same(a, b sat.Result) bool {
	return a.Verdict == b.Verdict && a.Conflicts == b.Conflicts && slices.Equal(a.Model, b.Model) &&
		slices.EqualFunc(a.Proof, b.Proof, slices.Equal[[]int])
}
