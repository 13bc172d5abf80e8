package sat_test

import (
	"slices"
	"testing"

	"sluicegate/cnf"
)

// checker performs unit propagation. It has no code in common with Solve.
type checker struct {
	vars    int
	clauses [][]int // the first two literals of each are watched
	watched [][]int // by place
	values  []int   // by place: 1 for true, -1 for false, 0 for open
	trail   []int
	refuted bool
}

func newChecker(c *cnf.Cnf) *checker {
	size := 2*c.Vars() + 1
	k := &checker{vars: c.Vars(), watched: make([][]int, size), values: make([]int, size)}
	for i := range c.Len() {
		k.add(c.Clause(i))
	}
	return k
}

// place returns where a literal is in the lists of the checker.
func (k *checker) place(lit int) int { return lit + k.vars }

func (k *checker) value(lit int) int { return k.values[k.place(lit)] }

// add adds a clause and performs unit propagation without assumptions.
func (k *checker) add(lits []int) {
	lits = slices.Clone(lits)
	slices.SortFunc(lits, func(a, b int) int { return k.value(b) - k.value(a) })
	isOpen := func(i int) bool { return i < len(lits) && k.value(lits[i]) >= 0 }
	if len(lits) > 1 {
		k.watch(len(k.clauses), lits[:2]...)
		k.clauses = append(k.clauses, lits)
	}
	if !isOpen(0) {
		k.refuted = true
	} else if !isOpen(1) && !k.holds(lits[0]) {
		k.refuted = true
	}
}

func (k *checker) watch(number int, lits ...int) {
	for _, lit := range lits {
		k.watched[k.place(lit)] = append(k.watched[k.place(lit)], number)
	}
}

// holds makes a literal true, and what follows from it; it returns false if a
// clause is false then.
func (k *checker) holds(lit int) bool {
	if k.value(lit) != 0 {
		return k.value(lit) > 0
	}
	at := len(k.trail)
	k.set(lit)
	for ; at < len(k.trail); at++ {
		lit := -k.trail[at]
		list := k.watched[k.place(lit)]
		k.watched[k.place(lit)] = nil
		for i, number := range list {
			if !k.keep(lit, number) {
				k.watched[k.place(lit)] = append(k.watched[k.place(lit)], list[i+1:]...)
				return false
			}
		}
	}
	return true
}

func (k *checker) set(lit int) {
	k.values[k.place(lit)], k.values[k.place(-lit)] = 1, -1
	k.trail = append(k.trail, lit)
}

// keep looks at a clause that watches a literal which has become false, and
// returns false if all its literals are.
func (k *checker) keep(lit, number int) bool {
	lits := k.clauses[number]
	if lits[0] == lit {
		lits[0], lits[1] = lits[1], lits[0]
	}
	for i := 2; i < len(lits) && k.value(lits[0]) <= 0; i++ {
		if k.value(lits[i]) >= 0 {
			lits[1], lits[i] = lits[i], lits[1]
			k.watch(number, lits[1])
			return true
		}
	}
	k.watch(number, lit)
	if k.value(lits[0]) == 0 {
		k.set(lits[0])
	}
	return k.value(lits[0]) > 0
}

// follows reports whether unit propagation fails if lits are false.
func (k *checker) follows(lits []int) bool {
	start := len(k.trail)
	fails := k.refuted
	for _, lit := range lits {
		fails = fails || !k.holds(-lit)
	}
	for _, lit := range k.trail[start:] {
		k.values[k.place(lit)], k.values[k.place(-lit)] = 0, 0
	}
	k.trail = k.trail[:start]
	return fails
}

// valid is what firstInvalid returns for a valid proof.
const valid = -1

// firstInvalid returns the number of the first clause of a proof that does not
// follow or is none, or their number if the last one is not empty.
func firstInvalid(c *cnf.Cnf, proof [][]int) int {
	k := newChecker(c)
	for i, lits := range proof {
		isNone := func(lit int) bool { return lit == 0 || lit < -c.Vars() || lit > c.Vars() }
		if slices.ContainsFunc(lits, isNone) || !k.follows(lits) {
			return i
		}
		k.add(lits)
	}
	if len(proof) == 0 || len(proof[len(proof)-1]) != 0 {
		return len(proof)
	}
	return valid
}

// TestP4_2TheCheckerRejects makes sure that the other tests can fail.
func TestP4_2TheCheckerRejects(t *testing.T) {
	all := formula(t, 2, []int{1, 2}, []int{1, -2}, []int{-1, 2}, []int{-1, -2})
	for _, x := range []struct {
		c     *cnf.Cnf
		proof [][]int
		want  int
	}{
		{all, [][]int{{1}, {}}, valid},
		{all, [][]int{{-2}, {}}, valid},
		{all, [][]int{{1}, {2}, {-1, -2}, {}}, valid},
		{all, [][]int{{}}, 0},
		{all, [][]int{{1}}, 1},
		{all, nil, 0},
		{all, [][]int{{3}, {}}, 0},
		{all, [][]int{{1}, {0}, {}}, 1},
		{formula(t, 2, []int{1, 2}), [][]int{{1}, {}}, 0},
		{formula(t, 3, []int{1, 2, 3}, []int{-1}, []int{-2}), [][]int{{3}, {}}, 1},
		{formula(t, 3, []int{-1}, []int{-2}, []int{1, 2, 3}, []int{-3}), [][]int{{}}, valid},
		{formula(t, 3, []int{1, 2, 3}, []int{-1}, []int{-2}, []int{-3}), [][]int{{}}, valid},
		{formula(t, 1, nil), [][]int{{}}, valid},
		{pigeons(t, 3, 2), [][]int{{}}, 0},
		{pigeons(t, 3, 2), [][]int{{1}, {}}, valid},
		{pigeons(t, 4, 3), [][]int{{1}, {}}, 0},
	} {
		if got := firstInvalid(x.c, x.proof); got != x.want {
			t.Errorf("P4.2: proof %v of %q: clause %d, want %d", x.proof, x.c.Text(), got, x.want)
		}
	}
}
