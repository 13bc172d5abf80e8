package sat

import "sluicegate/cnf"

// solver searches by assumptions, and learns a clause from each conflict.
type solver struct {
	assignment
	watches   [][]watch // by literal: the clauses to look at when it is false
	learned   []*clause
	limit     int
	order     order
	saved     []bool // the last value of each variable
	notes     notes
	proof     [][]int
	conflicts int
	refuted   bool // unit propagation without assumptions finds a false clause
}

// clause is a clause of at least two literals, of which the first two are
// watched.
type clause struct {
	lits    []literal
	levels  int // how many levels its literals had when it was learned
	used    int // the last conflict to which it contributed
	dropped bool
}

// watch is a clause in a list of watches. If the other literal is true, the
// clause need not be looked at.
type watch struct {
	clause *clause
	other  literal
}

// newSolver returns a solver that has done nothing but store the clauses of c
// and assign their units.
func newSolver(c *cnf.Cnf) *solver {
	vars := c.Vars()
	s := &solver{
		assignment: newAssignment(vars),
		watches:    make([][]watch, 2*vars),
		limit:      firstLimit,
		order:      newOrder(vars),
		saved:      make([]bool, vars),
		notes:      newNotes(vars),
	}
	for i := range c.Len() {
		s.accept(literals(c.Clause(i)...)...)
	}
	return s
}

// accept stores a clause of the formula, whose literals are of different
// variables.
func (s *solver) accept(lits ...literal) {
	switch {
	case len(lits) == 0 || len(lits) == 1 && s.isFalse(lits[0]):
		s.refuted = true
	case len(lits) > 1:
		s.attach(&clause{lits: lits})
	case !s.isTrue(lits[0]):
		s.assign(lits[0], nil)
	}
}

// attach makes the first two literals of a clause watched.
func (s *solver) attach(c *clause) {
	a, b := c.lits[0], c.lits[1]
	s.watches[a] = append(s.watches[a], watch{c, b})
	s.watches[b] = append(s.watches[b], watch{c, a})
}

// search returns the verdict. It depends on the budget only in when it gives
// up, so that a greater one leads to the same steps.
func (s *solver) search(budget int) int {
	if s.refuted {
		return Unsat
	}
	restarts, restartAt := 1, restartUnit
	for {
		if falsified := s.propagate(); falsified != nil {
			if s.depth() == 0 {
				return Unsat
			}
			if s.conflicts >= budget {
				return Unknown
			}
			s.conflicts++
			s.learn(falsified)
			continue
		}
		if s.conflicts >= restartAt {
			restarts++
			restartAt = s.conflicts + restartUnit*Luby(restarts)
			s.backtrack(0)
			s.reduce()
		}
		if !s.assume() {
			return Sat
		}
	}
}

// restartUnit is the number of conflicts for each unit of the Luby sequence.
const restartUnit = 64

// assume gives the most active variable without a value its last value. It
// returns false if all variables have one.
func (s *solver) assume() bool {
	for {
		v, exists := s.order.pop()
		if !exists {
			return false
		}
		if lit := literalOf(v, s.saved[v]); !s.isTrue(lit) && !s.isFalse(lit) {
			s.deepen()
			s.assign(lit, nil)
			return true
		}
	}
}

// propagate makes true what is implied, and returns a clause that is false, if
// it finds one.
func (s *solver) propagate() *clause {
	for s.head < len(s.trail) {
		lit := s.trail[s.head].not()
		s.head++
		if falsified := s.visit(lit); falsified != nil {
			return falsified
		}
	}
	return nil
}

// visit looks at the clauses that watch a literal which has become false.
func (s *solver) visit(lit literal) *clause {
	list := s.watches[lit]
	kept := list[:0]
	for i, w := range list {
		if s.isTrue(w.other) {
			kept = append(kept, w)
			continue
		}
		c := w.clause
		if c.lits[0] == lit {
			c.lits[0], c.lits[1] = c.lits[1], lit
		}
		w.other = c.lits[0]
		if !s.isTrue(w.other) && s.rewatch(c) {
			continue
		}
		kept = append(kept, w)
		if s.isFalse(w.other) {
			s.watches[lit] = append(kept, list[i+1:]...)
			return c
		}
		if !s.isTrue(w.other) {
			s.assign(w.other, c)
		}
	}
	s.watches[lit] = kept
	return nil
}

// rewatch replaces the second literal of a clause by one that is not false, if
// there is one after it.
func (s *solver) rewatch(c *clause) bool {
	for i := 2; i < len(c.lits); i++ {
		if lit := c.lits[i]; !s.isFalse(lit) {
			c.lits[1], c.lits[i] = lit, c.lits[1]
			s.watches[lit] = append(s.watches[lit], watch{c, c.lits[0]})
			return true
		}
	}
	return false
}

// backtrack takes back all assumptions beyond the given level.
func (s *solver) backtrack(level int) {
	s.undo(level, func(lit literal) {
		s.saved[lit.variable()] = lit.isPositive()
		s.order.push(lit.variable())
	})
}
