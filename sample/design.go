package sample

import (
	"slices"
	"strconv"

	"sluicegate/api"
	"sluicegate/elab"
	"sluicegate/flat"
	"sluicegate/typed"
)

// Elaborated returns the design of the module top of a text, and whether it has
// one.
func Elaborated(text string) (flat.Design, bool) {
	list, ok := Modules(text)
	if !ok {
		return flat.Design{}, false
	}
	d, _, err := elab.Elaborate(list, "top")
	return d, err == api.OK
}

// designer makes a design.
type designer struct {
	exprs
	d     flat.Design
	roles []int
	procs []flat.Proc
}

// Design returns a valid design, in which each process may depend on much.
func (pick Choice) Design() flat.Design {
	m := &designer{exprs: exprs{Choice: pick}}
	for i := range 3 + pick(8) {
		m.declare(i, pick.from(flat.Input, flat.Net, flat.Net, flat.Net, flat.Reg, flat.Reg, flat.Temp, flat.Memory))
	}
	m.sigs = m.d.Sigs
	m.known = slices.Concat(m.with(flat.Input), m.with(flat.Reg), m.with(flat.Memory))
	m.nets(m.shuffled(m.with(flat.Net)))
	m.clocked(m.shuffled(slices.Concat(m.with(flat.Reg), m.with(flat.Temp), m.with(flat.Memory))))
	all := make([]int, len(m.procs))
	for i := range all {
		all[i] = i
	}
	for i, at := range m.shuffled(all) {
		p := m.procs[at]
		p.Pos = api.Pos{File: 1, Line: 2, Col: i + 1}
		m.d.Procs = append(m.d.Procs, p)
	}
	return m.d
}

// declare adds the signal i.
func (m *designer) declare(i, role int) {
	x := typed.Sig{Name: "s" + strconv.Itoa(i), Width: m.Width(), Signed: m.one(2)}
	switch role {
	case flat.Input:
		m.d.Inputs = append(m.d.Inputs, i)
	case flat.Memory:
		x.Words = m.from(1, 2, 3, 5, 8, api.MaxWords)
	case flat.Reg, flat.Temp:
		if m.one(2) {
			m.d.Starts = append(m.d.Starts, flat.Start{Sig: i, Val: m.Vec(x.Width)})
		}
	}
	if role != flat.Input && role != flat.Memory && m.one(3) {
		m.d.Outputs = append(m.d.Outputs, i)
	}
	m.roles = append(m.roles, role)
	m.d.Sigs = append(m.d.Sigs, x)
	m.d.Places = append(m.d.Places, api.Pos{File: 1, Line: 1, Col: i + 1})
}

// with returns the signals with a role.
func (m *designer) with(role int) []int {
	var list []int
	for sig, r := range m.roles {
		if r == role {
			list = append(list, sig)
		}
	}
	return list
}

func (pick Choice) shuffled(list []int) []int {
	for i := range list {
		j := i + pick(len(list)-i)
		list[i], list[j] = list[j], list[i]
	}
	return list
}

// nets adds processes for Nets, each of which reads those before it.
func (m *designer) nets(list []int) {
	for len(list) > 0 {
		count := 1
		if m.one(2) {
			m.wires(list[0])
		} else {
			count += m.Choice(min(2, len(list)))
			m.comb(list[:count])
		}
		m.known = append(m.known, list[:count]...)
		list = list[count:]
	}
}

// wires adds Wire processes for parts of a signal, each of which may read the
// parts before it.
func (m *designer) wires(sig int) {
	x := m.sigs[sig]
	cuts := []int{0, x.Width}
	for range m.Choice(3) {
		cuts = append(cuts, m.Choice(x.Width))
	}
	slices.Sort(cuts)
	cuts = slices.Compact(cuts)
	ends := make([]int, len(cuts)-1)
	for i := range ends {
		ends[i] = i + 1
	}
	for _, i := range m.shuffled(ends) {
		lo, width := cuts[i-1], cuts[i]-cuts[i-1]
		s := m.assign(flat.Set, sig, lo, width)
		m.procs = append(m.procs, flat.Proc{Kind: flat.Wire, Body: []flat.Stmt{s}})
		m.parts = append(m.parts, typed.Part(typed.Signal(sig, x), lo, width))
	}
	m.parts = nil
}

// comb adds a Comb process for signals, which it sets before it reads them.
func (m *designer) comb(own []int) {
	before := m.known
	m.known = slices.Clone(before)
	var body []flat.Stmt
	for _, sig := range own {
		body = append(body, m.whole(flat.Set, sig)...)
		m.known = append(m.known, sig)
	}
	body = append(body, m.stmts(own, 2)...)
	m.procs = append(m.procs, flat.Proc{Kind: flat.Comb, Body: body})
	m.known = before
}

// clocked adds Clocked processes for registers and memories.
func (m *designer) clocked(list []int) {
	before := m.known
	for len(list) > 0 {
		own := list[:1+m.Choice(min(4, len(list)))]
		list = list[len(own):]
		m.known = slices.Clone(before)
		var body []flat.Stmt
		for _, sig := range own {
			if m.roles[sig] == flat.Temp {
				m.known = append(m.known, sig)
			}
			body = append(body, m.change(sig))
		}
		body = append(body, m.stmts(own, 3)...)
		m.procs = append(m.procs, flat.Proc{Kind: flat.Clocked, Body: body})
	}
}

// whole returns statements that certainly assign to all bits of a signal.
func (m *designer) whole(kind, sig int) []flat.Stmt {
	width := m.sigs[sig].Width
	all := []flat.Stmt{m.assign(kind, sig, 0, width)}
	switch {
	case m.one(4):
		other := m.assign(kind, sig, 0, width)
		return []flat.Stmt{{Kind: flat.If, Value: m.expr(m.Width(), 2), Body: all, Else: []flat.Stmt{other}}}
	case width > 1 && m.one(4):
		low := 1 + m.Choice(width-1)
		return []flat.Stmt{m.assign(kind, sig, low, width-low), m.assign(kind, sig, 0, low)}
	}
	return all
}

func (m *designer) assign(kind, sig, lo, width int) flat.Stmt {
	return flat.Stmt{Kind: kind, Target: flat.Target{Sig: sig, Lo: lo, Width: width}, Value: m.expr(width, 3)}
}

// stmts returns statements that change own signals.
func (m *designer) stmts(own []int, depth int) []flat.Stmt {
	var list []flat.Stmt
	for range m.Choice(3) {
		isClocked := m.roles[own[0]] != flat.Net
		switch {
		case depth > 0 && m.one(3):
			list = append(list, flat.Stmt{Kind: flat.If, Value: m.expr(m.Width(), 2), Body: m.stmts(own, depth-1), Else: m.stmts(own, depth-1)})
		case isClocked && m.one(4):
			number := len(m.d.Asserts)
			m.d.Asserts = append(m.d.Asserts, "p#"+strconv.Itoa(number))
			list = append(list, flat.Stmt{Kind: flat.Assert, Assert: number, Value: m.expr(m.Width(), 3)})
		default:
			list = append(list, m.change(own[m.Choice(len(own))]))
		}
	}
	return list
}

// change returns a statement that assigns to some bits of a signal, or to a word.
func (m *designer) change(sig int) flat.Stmt {
	x, kind := m.sigs[sig], flat.Set
	if m.roles[sig] == flat.Reg || m.roles[sig] == flat.Memory {
		kind = flat.Later
	}
	if x.Words == 0 && !m.one(3) {
		lo := m.Choice(x.Width)
		return m.assign(kind, sig, lo, 1+m.Choice(x.Width-lo))
	}
	width := 1
	if x.Words != 0 {
		width = x.Width
	}
	index := m.expr(m.from(1, 2, 3, 3, 7, 64), 1)
	return flat.Stmt{Kind: kind, Target: flat.Target{Sig: sig, Index: []typed.Expr{index}}, Value: m.expr(width, 3)}
}
