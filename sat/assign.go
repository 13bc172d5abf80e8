package sat

// literal is 2 times its variable, counted from 0, plus 1 if it is negative.
type literal int32

func (l literal) not() literal     { return l ^ 1 }
func (l literal) variable() int    { return int(l >> 1) }
func (l literal) isPositive() bool { return l&1 == 0 }

// literalOf returns the literal that is true if the variable has that value.
func literalOf(v int, value bool) literal {
	if value {
		return literal(2 * v)
	}
	return literal(2*v + 1)
}

// literals converts the literals of layer 3.
func literals(numbers ...int) []literal {
	lits := make([]literal, len(numbers))
	for i, n := range numbers {
		lits[i] = literalOf(max(n, -n)-1, n > 0)
	}
	return lits
}

// numbers converts to the literals of layer 3.
func numbers(lits ...literal) []int {
	list := make([]int, len(lits))
	for i, lit := range lits {
		list[i] = lit.variable() + 1
		if !lit.isPositive() {
			list[i] = -list[i]
		}
	}
	return list
}

// assignment contains the literals that are true in the order in which they
// became so, divided into levels: what is true without assumptions, and then
// each assumption with what it implies.
type assignment struct {
	trail  []literal
	starts []int     // where each level from 1 on begins in the trail
	head   int       // the literals from there on are not yet propagated
	value  []int8    // by literal
	level  []int     // by variable
	reason []*clause // by variable: the clause that implied it
}

// The values of a literal.
const (
	open  = 0
	holds = 1
	fails = -1
)

func newAssignment(vars int) assignment {
	return assignment{
		value:  make([]int8, 2*vars),
		level:  make([]int, vars),
		reason: make([]*clause, vars),
	}
}

func (a *assignment) isTrue(lit literal) bool  { return a.value[lit] == holds }
func (a *assignment) isFalse(lit literal) bool { return a.value[lit] == fails }

// depth returns the number of assumptions.
func (a *assignment) depth() int { return len(a.starts) }

// deepen begins a level.
func (a *assignment) deepen() { a.starts = append(a.starts, len(a.trail)) }

// assign makes a literal true, which has no value yet.
func (a *assignment) assign(lit literal, reason *clause) {
	a.value[lit], a.value[lit.not()] = holds, fails
	a.level[lit.variable()] = a.depth()
	a.reason[lit.variable()] = reason
	a.trail = append(a.trail, lit)
}

// undo takes back all levels beyond the given one, and passes each literal that
// was true to leave.
func (a *assignment) undo(level int, leave func(lit literal)) {
	if level >= a.depth() {
		return
	}
	start := a.starts[level]
	for _, lit := range a.trail[start:] {
		a.value[lit], a.value[lit.not()] = open, open
		leave(lit)
	}
	a.trail = a.trail[:start]
	a.starts = a.starts[:level]
	a.head = start
}

// model returns the values of all variables.
func (a *assignment) model() []bool {
	values := make([]bool, len(a.level))
	for v := range values {
		values[v] = a.isTrue(literalOf(v, true))
	}
	return values
}
