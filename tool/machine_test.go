package tool_test

import (
	"fmt"
	"slices"
	"strings"

	"sluicegate/sample"
)

// machine is the text of a module top and what it means: closures that use no layer.
// All its signals have the same width, so that no expression is extended.
type machine struct {
	sample.Choice
	width    int
	vars     []variable
	scope    scope // what wires and processes may read
	text     string
	ports    []string
	items    []string
	modules  []string
	settle   []func(v []int)
	steps    []func(s *step)
	names    []string // of the assertions
	isClosed bool     // whether all registers have initial values
}

// variable is a signal, or a word of the memory m.
type variable struct {
	name    string
	isInput bool
	isState bool
	isTemp  bool
	first   int // -1: any value
}

// step is a clock step.
type step struct {
	now    []int // which temporaries change
	later  []func(v []int)
	faults []string
}

// term is an expression.
type term struct {
	text  string
	value func(v []int) int
}

// scope has the names of what may be read: that of v[i], or nothing.
type scope struct {
	*machine
	names []string
	words int // of the memory m
	first int // its first word in v
}

type stmt struct {
	text string
	run  func(s *step)
}

func anyMachine(pick sample.Choice) *machine {
	m := &machine{Choice: pick, width: 1 + pick(3), isClosed: pick(5) > 0}
	m.scope.machine = m
	for i := range 1 + pick(2) {
		m.add(variable{name: fmt.Sprint("a", i), isInput: true}, true)
		m.ports = append(m.ports, m.typed("input", fmt.Sprint("a", i)))
	}
	var own [2][]int
	most := 6 / m.width
	if m.width < 3 && pick(3) == 0 {
		m.memory()
		most = 2
	}
	for i := range 1 + pick(most) {
		own[i%2] = append(own[i%2], m.register(i))
	}
	for i := range 1 + pick(3) {
		m.wire(i)
	}
	for i, list := range own {
		if i == 0 || len(list) > 0 {
			m.process(list, i == 0)
		}
	}
	m.text = m.source()
	return m
}

// add returns the number of a variable.
func (m *machine) add(x variable, isVisible bool) int {
	m.vars = append(m.vars, x)
	m.scope.names = append(m.scope.names, "")
	if isVisible {
		m.scope.names[len(m.vars)-1] = x.name
	}
	return len(m.vars) - 1
}

// typed returns a declaration.
func (m *machine) typed(word, name string) string {
	if m.width == 1 && m.Choice(2) == 0 {
		return word + " " + name
	}
	return fmt.Sprintf("%s [%d:0] %s", word, m.width-1, name)
}

// register adds one, to which processes assign later, or at once.
func (m *machine) register(i int) int {
	x := variable{name: fmt.Sprint("q", i), isState: true, first: -1}
	if m.Choice(4) == 0 {
		x.name, x.isTemp = fmt.Sprint("t", i), true
	}
	first := ""
	if m.isClosed || m.Choice(2) == 0 {
		x.first = m.Choice(1 << m.width)
		first = fmt.Sprint(" = ", x.first)
	}
	if m.Choice(2) == 0 {
		m.ports = append(m.ports, m.typed("output reg", x.name)+first)
	} else {
		m.items = append(m.items, m.typed("reg", x.name)+first+";")
	}
	return m.add(x, !x.isTemp)
}

// memory adds one of a few words, of which there is not one for each address.
func (m *machine) memory() {
	m.scope.words, m.scope.first = 2+m.Choice(2), len(m.vars)
	m.items = append(m.items, fmt.Sprintf("reg [%d:0] m [0:%d];", m.width-1, m.scope.words-1))
	for i := range m.scope.words {
		m.add(variable{name: fmt.Sprintf("m[%d]", i), isState: true, first: -1}, false)
	}
}

func (m *machine) literal(n int) string {
	return fmt.Sprintf([]string{"%d'd%d", "%d'b%b", "%d'h%x"}[m.Choice(3)], m.width, n)
}

// bit is that bit of a value, or 0.
func (m *machine) bit(n, at int) int {
	if at >= m.width {
		return 0
	}
	return n >> at & 1
}

// source returns the text of all modules.
func (m *machine) source() string {
	text := "module top (input clk, " + strings.Join(m.ports, ", ") + ");\n" + strings.Join(m.items, "\n") + "\nendmodule\n"
	at := m.Choice(len(m.modules) + 1)
	return strings.Join(slices.Concat(m.modules[:at], []string{text}, m.modules[at:]), "")
}

// cycle returns the settled values before a step, those after it, and the assertions
// that fail.
func (m *machine) cycle(values []int) (settled, next []int, faults []string) {
	settled = slices.Clone(values)
	for _, set := range m.settle {
		set(settled)
	}
	s := &step{now: slices.Clone(settled)}
	for _, run := range m.steps {
		run(s)
	}
	for _, set := range s.later {
		set(s.now)
	}
	return settled, s.now, s.faults
}

// all returns values with all combinations of the variables that are meant.
func (m *machine) all(list [][]int, isMeant func(x variable) bool) [][]int {
	for i, x := range m.vars {
		if !isMeant(x) {
			continue
		}
		var more [][]int
		for _, values := range list {
			for n := range 1 << m.width {
				if x.isState && x.first >= 0 && n != x.first {
					continue
				}
				values = slices.Clone(values)
				values[i] = n
				more = append(more, values)
			}
		}
		list = more
	}
	return list
}

// first returns the first cycle in which an assertion fails, and all that fail in it; or
// the number of cycles if none does.
func (m *machine) first(cycles int) (int, []string) {
	frontier := m.all([][]int{make([]int, len(m.vars))}, func(x variable) bool { return x.isState })
	for cycle := range cycles {
		var faults []string
		found, after := map[int]bool{}, [][]int{}
		for _, state := range frontier {
			for _, values := range m.all([][]int{state}, func(x variable) bool { return x.isInput }) {
				_, next, failed := m.cycle(values)
				faults = append(faults, failed...)
				key := 0
				for i, x := range m.vars {
					if x.isState {
						key = key<<m.width | next[i]
					}
				}
				if !found[key] {
					found[key], after = true, append(after, next)
				}
			}
		}
		if len(faults) > 0 {
			return cycle, faults
		}
		frontier = after
	}
	return cycles, nil
}
