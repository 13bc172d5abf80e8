package cnf_test

import (
	"math/rand/v2"
	"slices"
	"testing"

	"sluicegate/api"
	"sluicegate/cnf"
)

// formula returns a formula with these clauses, each of which must be stored.
func formula(t *testing.T, vars int, clauses ...[]int) *cnf.Cnf {
	t.Helper()
	c := cnf.New(vars)
	for i, lits := range clauses {
		if err := c.Add(lits...); err != api.OK || c.Len() != i+1 {
			t.Fatalf("Add(%v): error %d, %d clauses", lits, err, c.Len())
		}
	}
	return c
}

// mustHave fails unless c has that many variables and exactly these clauses.
func mustHave(t *testing.T, c *cnf.Cnf, vars int, clauses ...[]int) {
	t.Helper()
	if c.Vars() != vars || c.Len() != len(clauses) {
		t.Errorf("%d variables, %d clauses; want %d, %d", c.Vars(), c.Len(), vars, len(clauses))
		return
	}
	for i, want := range clauses {
		if got := c.Clause(i); !slices.Equal(got, want) {
			t.Errorf("clause %d: %v, want %v", i, got, want)
		}
	}
}

// someClause returns up to most literals, with repeated and opposite ones.
func someClause(r *rand.Rand, vars, most int) []int {
	lits := make([]int, r.IntN(most+1))
	for i := range lits {
		lits[i] = (1 + r.IntN(vars)) * (1 - 2*r.IntN(2))
	}
	return lits
}

// upTo returns the literals 1 to n.
func upTo(n int) []int {
	lits := make([]int, n)
	for i := range lits {
		lits[i] = i + 1
	}
	return lits
}

func magnitude(lit int) int { return max(lit, -lit) }
