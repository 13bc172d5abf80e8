package rup_test

import (
	"math"
	"math/rand/v2"
	"slices"
	"testing"

	"sluicegate/api"
	"sluicegate/cnf"
)

// formula returns a formula with these clauses.
func formula(t *testing.T, vars int, clauses ...[]int) *cnf.Cnf {
	t.Helper()
	c := cnf.New(vars)
	for _, lits := range clauses {
		mustAdd(t, c, lits...)
	}
	return c
}

func mustAdd(t *testing.T, c *cnf.Cnf, lits ...int) {
	t.Helper()
	if err := c.Add(lits...); err != api.OK {
		t.Fatalf("Add(%v): error %d", lits, err)
	}
}

// clausesOf returns what the formula holds.
func clausesOf(c *cnf.Cnf) [][]int {
	var list [][]int
	for i := range c.Len() {
		list = append(list, c.Clause(i))
	}
	return list
}

// chain says that each variable implies the next one.
func chain(t *testing.T, vars int) *cnf.Cnf {
	t.Helper()
	c := cnf.New(vars)
	for v := vars; v > 1; v-- {
		mustAdd(t, c, 1-v, v)
	}
	return c
}

// pigeons says that so many pigeons are in so many holes, one in each.
func pigeons(t *testing.T, birds, holes int) *cnf.Cnf {
	t.Helper()
	c := cnf.New(birds * holes)
	for bird := range birds {
		var places []int
		for hole := range holes {
			places = append(places, bird*holes+hole+1)
			for other := range bird {
				mustAdd(t, c, -(bird*holes + hole + 1), -(other*holes + hole + 1))
			}
		}
		mustAdd(t, c, places...)
	}
	return c
}

func someLiteral(r *rand.Rand, vars int) int {
	return (1 + r.IntN(vars)) * (1 - 2*r.IntN(2))
}

// someClause returns up to most literals, with repeated and opposite ones.
func someClause(r *rand.Rand, vars, most int) []int {
	lits := make([]int, r.IntN(most+1))
	for i := range lits {
		lits[i] = someLiteral(r, vars)
	}
	return lits
}

// someFormula returns a formula in which short clauses are frequent, so that
// unit propagation has something to do.
func someFormula(t *testing.T, r *rand.Rand, vars int) *cnf.Cnf {
	t.Helper()
	c := cnf.New(vars)
	for range r.IntN(3 * vars) {
		if lits := someClause(r, vars, 4); len(lits) > 0 || r.IntN(20) == 0 {
			mustAdd(t, c, lits...)
		}
	}
	return c
}

// triples returns a formula of clauses of three variables each, so many for
// each variable. With six there is hardly ever a model, but unit propagation
// alone does not show it.
func triples(t *testing.T, r *rand.Rand, vars, times int) *cnf.Cnf {
	t.Helper()
	c := cnf.New(vars)
	sign := func() int { return 1 - 2*r.IntN(2) }
	for range times * vars {
		v := r.Perm(vars)
		mustAdd(t, c, sign()*(1+v[0]), sign()*(1+v[1]), sign()*(1+v[2]))
	}
	return c
}

// propagated does what the chapter says, word for word: it returns the values
// that variables have in the end, and whether no clause is false.
func propagated(clauses [][]int, assumed ...int) (map[int]bool, bool) {
	values := map[int]bool{}
	for _, lit := range assumed {
		values[lit], values[-lit] = true, false
	}
	for again := true; again; {
		again = false
		for _, lits := range clauses {
			rest, satisfied := unassigned(values, lits)
			if satisfied || len(rest) > 1 {
				continue
			}
			if len(rest) == 0 {
				return nil, false
			}
			values[rest[0]], values[-rest[0]] = true, false
			again = true
		}
	}
	return values, true
}

// unassigned returns the different literals of a clause that have no value, or
// that one of them is true.
func unassigned(values map[int]bool, lits []int) (rest []int, satisfied bool) {
	for _, lit := range lits {
		value, assigned := values[lit]
		if value {
			return nil, true
		}
		if !assigned && !slices.Contains(rest, lit) {
			rest = append(rest, lit)
		}
	}
	return rest, false
}

// followsFrom is what Follows has to return for these clauses.
func followsFrom(vars int, clauses [][]int, lits []int) bool {
	var assumed []int
	for _, lit := range lits {
		if isForeign(vars, lit) {
			return false
		}
		assumed = append(assumed, -lit)
	}
	for _, lit := range lits {
		if slices.Contains(lits, -lit) {
			return true
		}
	}
	_, consistent := propagated(clauses, assumed...)
	return !consistent
}

func isForeign(vars, lit int) bool { return lit == 0 || lit < -vars || lit > vars }

// expectedCheck is what Check has to return.
func expectedCheck(c *cnf.Cnf, proof [][]int) (int, api.Errno) {
	clauses := clausesOf(c)
	for i, lits := range proof {
		if slices.ContainsFunc(lits, func(lit int) bool { return isForeign(c.Vars(), lit) }) {
			return i, api.ErrRange
		}
		if !followsFrom(c.Vars(), clauses, lits) {
			return i, api.ErrProof
		}
		clauses = append(clauses, lits)
	}
	if len(proof) == 0 || len(proof[len(proof)-1]) > 0 {
		return len(proof), api.ErrEnd
	}
	return 0, api.OK
}

// hasModel tries all values of the variables.
func hasModel(c *cnf.Cnf) bool {
	model := make([]bool, c.Vars())
	for number := range 1 << len(model) {
		for i := range model {
			model[i] = number>>i&1 == 1
		}
		if c.Holds(model...) {
			return true
		}
	}
	return false
}

// foreign returns numbers that are not literals of that many variables.
func foreign(vars int) []int {
	return []int{0, vars + 1, -vars - 1, math.MaxInt, math.MinInt, math.MinInt + 1, 1 << 32, -1 << 32}
}
