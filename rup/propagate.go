package rup

import (
	"slices"

	"sluicegate/cnf"
)

// propagator performs unit propagation. Between its calls, exactly what follows
// without assumptions is assigned.
type propagator struct {
	vars    int
	values  []value   // by place
	watches [][][]int // by place: the clauses to look at when the literal is false
	trail   []int     // the literals that are true, in the order in which they became so
	head    int       // those from there on are not yet propagated
	failed  bool      // a clause is false without assumptions
}

// value is that of a literal.
type value int8

const (
	open value = iota
	holds
	fails
)

// newPropagator returns one with the clauses of c.
func newPropagator(c *cnf.Cnf) *propagator {
	places := 2*c.Vars() + 1
	p := &propagator{vars: c.Vars(), values: make([]value, places), watches: make([][][]int, places)}
	for i := range c.Len() {
		p.add(c.Clause(i))
	}
	return p
}

// place returns the index of what belongs to a literal.
func (p *propagator) place(lit int) int { return lit + p.vars }

func (p *propagator) isTrue(lit int) bool  { return p.values[p.place(lit)] == holds }
func (p *propagator) isFalse(lit int) bool { return p.values[p.place(lit)] == fails }

// add adds a clause, which it takes over and changes. What has a value without
// assumptions keeps it, so that only the other literals matter. A clause with a
// literal and its negation needs no care: it implies nothing.
func (p *propagator) add(clause []int) {
	if p.failed || slices.ContainsFunc(clause, p.isTrue) {
		return
	}
	clause = slices.DeleteFunc(clause, p.isFalse)
	slices.Sort(clause)
	clause = slices.Compact(clause)
	switch len(clause) {
	case 0:
		p.failed = true
	case 1:
		p.assign(clause[0])
		p.failed = !p.propagate()
	default:
		p.watch(clause[0], clause)
		p.watch(clause[1], clause)
	}
}

// watch makes a literal, one of the first two of a clause, watched. As long as
// none of the two is false, the clause implies nothing.
func (p *propagator) watch(lit int, clause []int) {
	at := p.place(lit)
	p.watches[at] = append(p.watches[at], clause)
}

// refutes reports whether unit propagation fails if all the literals are
// assumed to be false.
func (p *propagator) refutes(lits ...int) bool {
	defer p.clear(len(p.trail))
	mustHold := func(lit int) bool { return !p.makeTrue(-lit) }
	return p.failed || slices.ContainsFunc(lits, mustHold) || !p.propagate()
}

// clear takes back all but the first literals that became true.
func (p *propagator) clear(size int) {
	for _, lit := range p.trail[size:] {
		p.values[p.place(lit)], p.values[p.place(-lit)] = open, open
	}
	p.trail = p.trail[:size]
	p.head = size
}

// makeTrue returns false if the literal is false.
func (p *propagator) makeTrue(lit int) bool {
	if p.values[p.place(lit)] == open {
		p.assign(lit)
	}
	return p.isTrue(lit)
}

// assign makes a literal true, which has no value yet.
func (p *propagator) assign(lit int) {
	p.values[p.place(lit)], p.values[p.place(-lit)] = holds, fails
	p.trail = append(p.trail, lit)
}

// propagate makes true what is implied, and returns false if it fails.
func (p *propagator) propagate() bool {
	for p.head < len(p.trail) {
		lit := -p.trail[p.head]
		p.head++
		if !p.visit(lit) {
			return false
		}
	}
	return true
}

// visit looks at the clauses that watch a literal which has become false, and
// returns false if one of them is.
func (p *propagator) visit(lit int) bool {
	list := p.watches[p.place(lit)]
	kept := 0
	consistent := true
	for _, clause := range list {
		if consistent && p.moves(lit, clause) {
			continue
		}
		list[kept] = clause
		kept++
		consistent = consistent && p.makeTrue(clause[0])
	}
	p.watches[p.place(lit)] = list[:kept]
	return consistent
}

// moves lets a clause watch another literal instead of one that has become
// false, which it makes the second one. It returns false if the clause need not
// do so, because it holds, or cannot, because all others but the first are false.
func (p *propagator) moves(lit int, clause []int) bool {
	if clause[0] == lit {
		clause[0], clause[1] = clause[1], lit
	}
	if p.isTrue(clause[0]) {
		return false
	}
	for i, other := range clause[2:] {
		if !p.isFalse(other) {
			clause[1], clause[i+2] = other, lit
			p.watch(other, clause)
			return true
		}
	}
	return false
}
