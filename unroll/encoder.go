package unroll

import (
	"slices"

	"sluicegate/api"
)

// The literals of the first variable, which is true.
const (
	yes = 1
	no  = -1
)

// gate is the two literals of a conjunction, the lesser one first. Literals mean the
// same in all cycles, and so two cycles may share a conjunction.
type gate [2]int

// encoder adds a cycle to its unroller. It keeps the first error, after which the
// literals that it returns have no meaning.
type encoder struct {
	*Unroller
	values []int // the literal of each node of the graph in this cycle
	err    api.Errno
}

// encode returns the new cycle. An input of the graph that belongs to no input and
// no register is false, as it is for the graph if it has no value.
func (e *encoder) encode() frame {
	if e.Frames() == 0 {
		e.clause(e.variable())
	}
	e.values = slices.Repeat([]int{no}, e.size)
	for _, lits := range e.ins {
		for _, lit := range lits {
			e.assign(lit, e.variable())
		}
	}
	for reg, lits := range e.regs {
		for bit, lit := range lits {
			e.assign(lit, e.begin(reg, bit))
		}
	}
	for _, x := range e.ands {
		e.values[x.node] = e.and(e.literal(x.a), e.literal(x.b))
	}
	return frame{ins: e.words(e.ins), regs: e.words(e.regs), next: e.words(e.next), bads: e.bads()}
}

// assign makes a literal of an input of the graph have a value.
func (e *encoder) assign(lit, value int) {
	if lit < 2 || lit/2 >= e.size {
		return
	}
	if lit%2 == 1 {
		value = -value
	}
	e.values[lit/2] = value
}

// begin returns what a bit of a register is at the beginning of the cycle.
func (e *encoder) begin(reg, bit int) int {
	if last, found := element(e.frames, e.Frames()-1); found {
		bits, _ := element(last.next, reg)
		value, found := element(bits, bit)
		if !found {
			return no
		}
		return value
	}
	value, _ := element(e.first, reg)
	switch {
	case value.Width() == 0:
		return e.variable()
	case value.Bit(bit):
		return yes
	}
	return no
}

// literal returns what a literal of the graph is in this cycle.
func (e *encoder) literal(lit int) int {
	if lit < 0 || lit/2 >= e.size {
		return no
	}
	if lit%2 == 1 {
		return -e.values[lit/2]
	}
	return e.values[lit/2]
}

// words returns what the bits of words are in this cycle.
func (e *encoder) words(lists [][]int) [][]int {
	words := copied(lists)
	for _, word := range words {
		for bit, lit := range word {
			word[bit] = e.literal(lit)
		}
	}
	return words
}

// bads returns, for each assertion, whether it fails in this cycle.
func (e *encoder) bads() []int {
	var list []int
	for i := range min(len(e.on), len(e.is)) {
		list = append(list, e.and(e.literal(e.on[i]), -e.literal(e.is[i])))
	}
	return list
}

// and returns the conjunction of two literals. Where its value is known, or there is
// already a variable for it, no other one is needed.
func (e *encoder) and(a, b int) int {
	switch {
	case a == no || b == no || a == -b:
		return no
	case a == yes || a == b:
		return b
	case b == yes:
		return a
	}
	g := gate{min(a, b), max(a, b)}
	both, found := e.gates[g]
	if !found {
		both = e.variable()
		e.gates[g] = both
		e.clause(-both, a)
		e.clause(-both, b)
		e.clause(both, -a, -b)
	}
	return both
}

// variable returns a new variable.
func (e *encoder) variable() int {
	v, err := e.formula.Var()
	e.keep(err)
	return v
}

// clause adds a clause.
func (e *encoder) clause(lits ...int) { e.keep(e.formula.Add(lits...)) }

// keep keeps an error if it is the first one.
func (e *encoder) keep(err api.Errno) {
	if e.err == api.OK {
		e.err = err
	}
}
