package synth

import (
	"sluicegate/api"
	"sluicegate/bv"
	"sluicegate/flat"
	"sluicegate/net"
)

// stmts executes statements where the node on, or always, tells whether they are
// executed. Each assignment changes its target under that condition, instead of
// each If choosing between its branches: the number of nodes then depends on that
// of the statements, however deeply they are nested.
func (b *builder) stmts(list []flat.Stmt, on int) {
	for _, s := range list {
		if b.err != api.OK {
			return
		}
		value := b.expr(s.Value)
		switch s.Kind {
		case flat.Set:
			b.assign(b.now, s.Target, value, on)
		case flat.Later:
			b.assign(b.later, s.Target, value, on)
		case flat.If:
			b.branches(s, value, on)
		case flat.Assert:
			b.net.Asserts = append(b.net.Asserts, net.Assert{Name: b.assertion(s.Assert), On: b.condition(on), Is: value})
		}
	}
}

// branches executes those of an If. A register that is certainly assigned, in
// whichever of them is executed, does not depend on what it would receive without
// the If.
func (b *builder) branches(s flat.Stmt, value, on int) {
	if on == always {
		for _, sig := range b.certain(s) {
			b.later[sig] = none
		}
	}
	b.stmts(s.Body, b.both(on, b.truth(value)))
	if len(s.Else) > 0 {
		b.stmts(s.Else, b.both(on, b.un(bv.Zero, value)))
	}
}

// assertion returns the name of an assertion, or nothing if there is none.
func (b *builder) assertion(number int) string {
	if number < 0 || number >= len(b.design.Asserts) {
		return ""
	}
	return b.design.Asserts[number]
}

// assign changes the node of a signal, or adds a write to a memory.
func (b *builder) assign(nodes []int, t flat.Target, value, on int) {
	switch {
	case !b.has(t.Sig):
		b.fail(api.ErrRange)
	case b.roles[t.Sig] != flat.Memory:
		nodes[t.Sig] = b.assigned(nodes[t.Sig], t, value, on)
	case len(t.Index) == 0:
		b.fail(api.ErrRange)
	default:
		m := &b.net.Mems[b.memory(t.Sig)]
		m.Ports = append(m.Ports, net.Port{On: b.condition(on), At: b.expr(t.Index[0]), Val: value})
	}
}

// assigned returns what old becomes if the value is assigned to the target under
// a condition. A signal that has no value yet needs no choice: nothing reads it
// before it has certainly been assigned, under the other condition as well.
func (b *builder) assigned(old int, t flat.Target, value, on int) int {
	width := b.design.Sigs[t.Sig].Width
	if old == none && b.isWhole(t) {
		return b.checked(value, width)
	}
	if old == none {
		old = b.number(width, 0)
	}
	switch {
	case b.isWhole(t):
		return b.choose(on, b.checked(value, width), old)
	case len(t.Index) > 0:
		return b.choose(on, b.withBit(old, b.expr(t.Index[0]), b.checked(value, 1)), old)
	}
	value = b.checked(value, t.Width)
	if on != always {
		value = b.choose(on, value, b.part(old, t.Lo, t.Width))
	}
	above := t.Lo + t.Width
	return b.cat(b.part(old, above, width-above), value, b.part(old, 0, t.Lo))
}

// withBit returns old with a bit in place of the one with the number at. A one
// that is shifted beyond old is no bit of it.
func (b *builder) withBit(old, at, bit int) int {
	width := b.width(old)
	all := max(width, b.width(at))
	one := b.bin(bv.Shl, b.number(all, 1), b.wide(at, all))
	hole := b.part(one, 0, width)
	with, without := b.bin(bv.Or, old, hole), b.bin(bv.And, old, b.un(bv.Not, hole))
	return b.choose(bit, with, without)
}
