package sat

import (
	"cmp"
	"slices"
)

const (
	firstLimit  = 2000
	limitGrowth = 200
	goodLevels  = 2 // clauses of so few levels are kept
)

// reduce drops the less useful half of the learned clauses when there are as
// many as the limit, which then grows. It is called without assumptions, when
// no reason is needed.
//
// Learned clauses differ from each other as long as none is dropped, and there
// are only 3^vars clauses. So when all shares of Enough but one are used up,
// nothing is dropped any more, and the last share is enough for what follows.
func (s *solver) reduce() {
	enough := Enough(len(s.saved))
	if len(s.learned) < s.limit || s.conflicts >= enough-enough/enoughShares {
		return
	}
	s.limit += limitGrowth
	slices.SortStableFunc(s.learned, func(a, b *clause) int {
		return cmp.Or(cmp.Compare(a.levels, b.levels), cmp.Compare(b.used, a.used))
	})
	for _, c := range s.learned[(len(s.learned)+1)/2:] {
		c.dropped = c.levels > goodLevels
	}
	s.learned = slices.DeleteFunc(s.learned, func(c *clause) bool { return c.dropped })
	for lit, list := range s.watches {
		s.watches[lit] = slices.DeleteFunc(list, func(w watch) bool { return w.clause.dropped })
	}
}
