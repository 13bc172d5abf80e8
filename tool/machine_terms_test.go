package tool_test

import (
	"fmt"
	"math/bits"
)

func (s scope) mask(n int) int { return n & (1<<s.width - 1) }

// variable returns the number of one that may be read.
func (s scope) variable() int {
	for {
		if i := s.Choice(len(s.names)); s.names[i] != "" {
			return i
		}
	}
}

func (s scope) leaf() term {
	switch {
	case s.Choice(4) == 0:
		n := s.Choice(1 << s.width)
		return term{s.literal(n), func([]int) int { return n }}
	case s.words > 0 && s.Choice(3) == 0:
		at := s.leaf()
		if n := at.value(make([]int, 100)); at.text[0] <= '9' && n >= s.words {
			return s.leaf()
		}
		return term{"m[" + at.text + "]", func(v []int) int {
			if n := at.value(v); n < s.words {
				return v[s.first+n]
			}
			return 0
		}}
	}
	i := s.variable()
	return term{s.names[i], func(v []int) int { return v[i] }}
}

func (s scope) term(depth int) term {
	if depth == 0 {
		return s.leaf()
	}
	a, b, c, i := s.term(depth-1), s.term(depth-1), s.cond(depth-1), s.variable()
	switch s.Choice(8) {
	case 0:
		return term{"(~" + a.text + ")", func(v []int) int { return s.mask(^a.value(v)) }}
	case 1:
		return term{"(-" + a.text + ")", func(v []int) int { return s.mask(-a.value(v)) }}
	case 2:
		return term{"(" + a.text + " << " + b.text + ")", func(v []int) int { return s.mask(a.value(v) << b.value(v)) }}
	case 3:
		return term{"(" + c.text + " ? " + a.text + " : " + b.text + ")", func(v []int) int {
			if c.value(v) != 0 {
				return a.value(v)
			}
			return b.value(v)
		}}
	case 4:
		return term{fmt.Sprintf("{%d{%s}}", s.width, c.text), func(v []int) int { return s.mask(-c.value(v)) }}
	case 5:
		if s.width == 1 {
			return s.leaf()
		}
		return term{fmt.Sprintf("{%s[0], %s[%d:1]}", s.names[i], s.names[i], s.width-1), func(v []int) int { return v[i]>>1 | v[i]&1<<(s.width-1) }}
	}
	return s.two(a, b)
}

func (s scope) two(a, b term) term {
	op := s.Choice(6)
	text := "(" + a.text + " " + []string{"+", "-", "&", "|", "^", "*"}[op] + " " + b.text + ")"
	return term{text, func(v []int) int {
		x, y := a.value(v), b.value(v)
		return s.mask([]int{x + y, x - y, x & y, x | y, x ^ y, x * y}[op])
	}}
}

func truth(is bool) int {
	if is {
		return 1
	}
	return 0
}

// cond returns an expression of one bit.
func (s scope) cond(depth int) term {
	if depth <= 0 {
		return s.choice()
	}
	a, b := s.term(depth-1), s.term(depth-1)
	switch s.Choice(8) {
	case 0:
		c, d := s.cond(depth-1), s.cond(depth-1)
		return term{"(" + c.text + " && " + d.text + ")", func(v []int) int { return c.value(v) & d.value(v) }}
	case 1:
		c, d := s.cond(depth-1), s.cond(depth-1)
		return term{"(" + c.text + " || " + d.text + ")", func(v []int) int { return c.value(v) | d.value(v) }}
	case 2:
		return s.choice()
	}
	op := s.Choice(10)
	if op < 4 {
		return term{"(" + []string{"!", "|", "&", "^"}[op] + a.text + ")", func(v []int) int {
			n := a.value(v)
			return truth([]bool{n == 0, n != 0, n == s.mask(-1), bits.OnesCount(uint(n))%2 == 1}[op])
		}}
	}
	return term{"(" + a.text + " " + []string{"==", "!=", "<", "<=", ">", ">="}[op-4] + " " + b.text + ")", func(v []int) int {
		x, y := a.value(v), b.value(v)
		return truth([]bool{x == y, x != y, x < y, x <= y, x > y, x >= y}[op-4])
	}}
}

// choice returns a bit of a variable.
func (s scope) choice() term {
	i := s.variable()
	if s.Choice(3) == 0 {
		j := s.variable()
		return term{s.names[i] + "[" + s.names[j] + "]", func(v []int) int { return s.bit(v[i], v[j]) }}
	}
	at := s.Choice(s.width)
	if s.width == 1 && s.Choice(2) == 0 {
		return term{s.names[i], func(v []int) int { return v[i] }}
	}
	return term{fmt.Sprintf("%s[%d]", s.names[i], at), func(v []int) int { return s.bit(v[i], at) }}
}

// wire adds a signal that depends on those before it.
func (m *machine) wire(i int) {
	name, word, s := fmt.Sprint("w", i), "wire", m.scope
	item, value := s.driver(name, i)
	if item[:3] == "alw" {
		word = "reg"
	}
	switch {
	case m.Choice(2) == 0:
		m.items = append(m.items, m.typed(word, name)+";")
	case word == "reg":
		m.ports = append(m.ports, m.typed("output reg", name))
	default:
		m.ports = append(m.ports, m.typed("output", name))
	}
	m.items = append(m.items, item)
	at := m.add(variable{name: name}, true)
	m.settle = append(m.settle, func(v []int) { v[at] = value(v) })
}

// driver returns an item that sets a wire, and the value of that.
func (s scope) driver(name string, i int) (string, func(v []int) int) {
	a, b, c := s.term(2), s.term(2), s.cond(1)
	choose := term{value: func(v []int) int {
		if c.value(v) != 0 {
			return a.value(v)
		}
		return b.value(v)
	}}
	switch s.Choice(8) {
	case 0:
		return fmt.Sprintf("always @* begin if (%s) %s = %s; else %s = %s; end", c.text, name, a.text, name, b.text), choose.value
	case 1:
		return fmt.Sprintf("always @(*) begin %s = %s; case (%s) 1: %s = %s; endcase end", name, b.text, c.text, name, a.text), choose.value
	case 2:
		return s.loop(name, i, "always @* for (i = 0; i < %d; i = i + 1) ", "integer i")
	case 3:
		return s.loop(name, i, "for (i = 0; i < %d; i = i + 1) begin : b"+fmt.Sprint(i)+" assign ", "genvar i")
	case 4, 5:
		return s.called(name, i, a, b)
	}
	return "assign " + name + " = " + a.text + ";", a.value
}

// loop sets the bits of a wire.
func (s scope) loop(name string, i int, head, index string) (string, func(v []int) int) {
	x, y := s.variable(), s.variable()
	counter := fmt.Sprint("i", i)
	s.items = append(s.items, index+fmt.Sprint(i)+";")
	head = replaced(fmt.Sprintf(head, s.width), "i", counter)
	text := fmt.Sprintf("%s[%s] = %s[%s] ^ %s[%d - %s];", name, counter, s.names[x], counter, s.names[y], s.width-1, counter)
	if index == "genvar i" {
		text += " end"
	}
	return head + text, func(v []int) int {
		n := 0
		for at := range s.width {
			n |= (s.bit(v[x], at) ^ s.bit(v[y], s.width-1-at)) << at
		}
		return n
	}
}

// called sets a wire to the result of a function or of a module.
func (s scope) called(name string, i int, a, b term) (string, func(v []int) int) {
	inner := scope{machine: s.machine, names: []string{"x", "y"}}.term(2)
	value := func(v []int) int { return inner.value([]int{a.value(v), b.value(v)}) }
	f, x, y := fmt.Sprint("f", i), s.typed("input", "x"), s.typed("input", "y")
	if s.Choice(2) == 0 {
		s.items = append(s.items, s.typed("function", f)+"; "+x+"; "+y+"; "+f+" = "+inner.text+"; endfunction")
		return "assign " + name + " = " + f + "(" + a.text + ", " + b.text + ");", value
	}
	s.modules = append(s.modules, fmt.Sprintf("module %s (%s, %s, %s);\nassign z = %s;\nendmodule\n", f, x, y, s.typed("output", "z"), inner.text))
	return fmt.Sprintf("%s u%d (.x(%s), .y(%s), .z(%s));", f, i, a.text, b.text, name), value
}
