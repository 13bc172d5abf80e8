package sat

import "slices"

// notes are made while a clause is learned.
type notes struct {
	marks  []mark // by variable
	marked []int  // the variables that have a mark
	stamps []int  // by level: the last conflict whose clause had a literal of it
}

// mark says how a variable relates to the clause that is learned.
type mark uint8

const (
	unmarked mark = iota
	covered       // it is in the clause, or its value follows from it
	needed        // its value does not
)

func newNotes(vars int) notes {
	return notes{marks: make([]mark, vars), stamps: make([]int, vars+1)}
}

func (n *notes) set(v int, m mark) {
	n.marks[v] = m
	n.marked = append(n.marked, v)
}

func (n *notes) clear() {
	for _, v := range n.marked {
		n.marks[v] = unmarked
	}
	n.marked = n.marked[:0]
}

// learn derives a clause from one that is false, returns to the first level at
// which unit propagation makes a literal of it true, and does so. The clause
// was not there before: otherwise this would have been done at that level.
func (s *solver) learn(falsified *clause) {
	lits := s.derive(falsified)
	levels := s.stampLevels(lits...)
	lits = s.shorten(lits...)
	s.notes.clear()
	s.order.age()
	s.proof = append(s.proof, numbers(lits...))
	if len(lits) == 1 {
		s.backtrack(0)
		s.assign(lits[0], nil)
		return
	}
	s.deepestSecond(lits...)
	c := &clause{lits: lits, levels: levels, used: s.conflicts}
	s.backtrack(s.level[lits[1].variable()])
	s.attach(c)
	s.learned = append(s.learned, c)
	s.assign(lits[0], c)
}

// derive replaces the literals of the last level by the other literals of the
// clauses that implied them, until only one of that level is left, which it
// returns first. Literals that are false without assumptions are left out.
func (s *solver) derive(c *clause) []literal {
	lits := make([]literal, 1)
	last, at := 0, len(s.trail)
	for {
		c.used = s.conflicts
		for _, lit := range c.lits {
			v := lit.variable()
			if s.level[v] == 0 || s.notes.marks[v] == covered {
				continue
			}
			s.notes.set(v, covered)
			s.order.bump(v)
			if s.level[v] == s.depth() {
				last++
			} else {
				lits = append(lits, lit)
			}
		}
		at--
		for s.notes.marks[s.trail[at].variable()] != covered {
			at--
		}
		last--
		if last == 0 {
			lits[0] = s.trail[at].not()
			return lits
		}
		c = s.reason[s.trail[at].variable()]
	}
}

// shorten removes the literals that are false because others of the clause are.
func (s *solver) shorten(lits ...literal) []literal {
	rest := slices.DeleteFunc(lits[1:], func(lit literal) bool { return s.isImplied(lit.variable()) })
	return lits[:1+len(rest)]
}

// isImplied reports whether the value of a variable follows from those of the
// other variables of the clause. It does not if it depends on a level of which
// the clause has no literal.
func (s *solver) isImplied(v int) bool {
	if s.reason[v] == nil {
		return false
	}
	return !slices.ContainsFunc(s.reason[v].lits, func(lit literal) bool {
		u := lit.variable()
		if u == v || s.level[u] == 0 || s.notes.marks[u] == covered {
			return false
		}
		if s.notes.marks[u] == needed {
			return true
		}
		if s.notes.stamps[s.level[u]] == s.conflicts && s.isImplied(u) {
			s.notes.set(u, covered)
			return false
		}
		s.notes.set(u, needed)
		return true
	})
}

// stampLevels returns how many levels the literals have, and stamps these.
func (s *solver) stampLevels(lits ...literal) int {
	count := 0
	for _, lit := range lits {
		stamp := &s.notes.stamps[s.level[lit.variable()]]
		if *stamp != s.conflicts {
			*stamp = s.conflicts
			count++
		}
	}
	return count
}

// deepestSecond moves the literal of the greatest level after the first literal
// to the second place, because a watched literal must not stay false when
// another one becomes open.
func (s *solver) deepestSecond(lits ...literal) {
	at := 1
	for i := 2; i < len(lits); i++ {
		if s.level[lits[i].variable()] > s.level[lits[at].variable()] {
			at = i
		}
	}
	lits[1], lits[at] = lits[at], lits[1]
}
