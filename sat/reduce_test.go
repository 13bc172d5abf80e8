package sat

import (
	"testing"

	"sluicegate/cnf"
)

// TestP4_3TheLastShareDropsNothing checks what the promise of Enough is based
// on, because formulas of few variables do not take that many conflicts.
func TestP4_3TheLastShareDropsNothing(t *testing.T) {
	for _, x := range []struct{ conflicts, want int }{
		{firstLimit, firstLimit / 2},
		{Enough(10)/6*5 - 1, firstLimit / 2},
		{Enough(10) / 6 * 5, firstLimit},
		{Enough(10) - 1, firstLimit},
	} {
		s := newSolver(cnf.New(10))
		for range firstLimit {
			c := &clause{lits: literals(1, 2, 3), levels: goodLevels + 1}
			s.attach(c)
			s.learned = append(s.learned, c)
		}
		s.conflicts = x.conflicts
		s.reduce()
		if len(s.learned) != x.want || len(s.watches[0]) != x.want || len(s.watches[2]) != x.want {
			t.Errorf("P4.3: after %d conflicts, %d clauses are left, want %d", x.conflicts, len(s.learned), x.want)
		}
	}
}
