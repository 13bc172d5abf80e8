package tool_test

import (
	"fmt"
	"regexp"
	"slices"
	"strings"
)

// replaced replaces a word in a text.
func replaced(text, word, other string) string {
	return regexp.MustCompile(`\b`+word+`\b`).ReplaceAllString(text, other)
}

// process adds a clocked process for registers and, possibly, for the memory.
func (m *machine) process(own []int, hasMemory bool) {
	s := m.scope
	s.names = slices.Clone(s.names)
	for _, i := range own {
		s.names[i] = m.vars[i].name
	}
	var list []stmt
	for _, i := range own {
		list = append(list, s.assign(i))
	}
	for range 1 + m.Choice(3) {
		list = append(list, s.stmt(own, hasMemory && s.words > 0, 2))
	}
	if m.Choice(2) > 0 {
		list = append(list, s.assert())
	}
	all := block(list)
	m.items = append(m.items, "always @(posedge clk) "+all.text)
	m.steps = append(m.steps, all.run)
}

// block is the statement that consists of others.
func block(list []stmt) stmt {
	var lines []string
	for _, x := range list {
		lines = append(lines, x.text)
	}
	return stmt{"begin\n" + strings.Join(lines, "\n") + "\nend", func(s *step) {
		for _, x := range list {
			x.run(s)
		}
	}}
}

func (s scope) stmt(own []int, hasMemory bool, depth int) stmt {
	switch {
	case depth > 0 && s.Choice(3) == 0:
		return s.branch(own, hasMemory, depth)
	case depth > 0 && s.Choice(4) == 0:
		return s.cases(own, hasMemory, depth)
	case hasMemory && s.Choice(2) == 0:
		return s.store()
	case s.Choice(5) == 0:
		return s.assert()
	case len(own) == 0:
		return stmt{";", func(*step) {}}
	}
	return s.assign(own[s.Choice(len(own))])
}

func (s scope) branch(own []int, hasMemory bool, depth int) stmt {
	c := s.cond(2)
	a, b := s.stmt(own, hasMemory, depth-1), s.stmt(own, hasMemory, depth-1)
	return stmt{"if (" + c.text + ") begin " + a.text + " end else " + b.text, func(x *step) {
		if c.value(x.now) != 0 {
			a.run(x)
		} else {
			b.run(x)
		}
	}}
}

func (s scope) cases(own []int, hasMemory bool, depth int) stmt {
	e, label := s.term(1), s.term(1)
	n := s.Choice(1 << s.width)
	a, b, c := s.stmt(own, hasMemory, depth-1), s.stmt(own, hasMemory, depth-1), s.stmt(own, hasMemory, depth-1)
	text := fmt.Sprintf("case (%s)\n%s: %s\n%s, %s: %s\ndefault: %s\nendcase", e.text, label.text, a.text, s.literal(n), s.literal(0), b.text, c.text)
	return stmt{text, func(x *step) {
		switch e.value(x.now) {
		case label.value(x.now):
			a.run(x)
		case n, 0:
			b.run(x)
		default:
			c.run(x)
		}
	}}
}

// set is the statement that assigns to a variable what change makes of its value.
func (s scope) set(i int, target string, value term, change func(old, n int, v []int) int) stmt {
	if s.vars[i].isTemp {
		return stmt{target + " = " + value.text + ";", func(x *step) { x.now[i] = change(x.now[i], value.value(x.now), x.now) }}
	}
	return stmt{target + " <= " + value.text + ";", func(x *step) {
		n, then := value.value(x.now), slices.Clone(x.now)
		x.later = append(x.later, func(v []int) { v[i] = change(v[i], n, then) })
	}}
}

// assign assigns to a register, or to a bit of it.
func (s scope) assign(i int) stmt {
	name := s.names[i]
	replace := func(old, n, at int) int {
		if at >= s.width {
			return old
		}
		return old&^(1<<at) | n<<at
	}
	switch s.Choice(6) {
	case 0:
		at := s.Choice(s.width)
		return s.set(i, fmt.Sprintf("%s[%d]", name, at), s.cond(2), func(old, n int, _ []int) int { return replace(old, n, at) })
	case 1:
		at := s.variable()
		return s.set(i, name+"["+s.names[at]+"]", s.cond(2), func(old, n int, v []int) int { return replace(old, n, v[at]) })
	}
	return s.set(i, name, s.term(2), func(_, n int, _ []int) int { return n })
}

// store assigns to a word, or to all of them.
func (s scope) store() stmt {
	value := s.term(2)
	if s.Choice(4) == 0 {
		counter := fmt.Sprint("k", len(s.items))
		s.items = append(s.items, "integer "+counter+";")
		text := fmt.Sprintf("for (%s = 0; %s < %d; %s = %s + 1) m[%s] <= %s;", counter, counter, s.words, counter, counter, counter, value.text)
		return stmt{text, func(x *step) {
			n := value.value(x.now)
			x.later = append(x.later, func(v []int) {
				for at := range s.words {
					v[s.first+at] = n
				}
			})
		}}
	}
	at := s.variable()
	return stmt{"m[" + s.names[at] + "] <= " + value.text + ";", func(x *step) {
		n, place := value.value(x.now), x.now[at]
		x.later = append(x.later, func(v []int) {
			if place < s.words {
				v[s.first+place] = n
			}
		})
	}}
}

// assert is a statement with the next assertion, which seldom fails.
func (s scope) assert() stmt {
	c := s.cond(3)
	for range 1 + s.Choice(3) {
		d := s.cond(3)
		first := c
		c = term{"(" + first.text + " || " + d.text + ")", func(v []int) int { return first.value(v) | d.value(v) }}
	}
	label, name := "", "assert"
	if s.Choice(3) > 0 {
		name = "abc"[s.Choice(3):][:1]
		label = name + ": "
	}
	name += fmt.Sprint("#", len(s.machine.names))
	s.machine.names = append(s.machine.names, name)
	return stmt{label + "assert (" + c.text + ");", func(x *step) {
		if c.value(x.now) == 0 {
			x.faults = append(x.faults, name)
		}
	}}
}
