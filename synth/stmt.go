package synth

import (
	"sluicegate/api"
	"sluicegate/bv"
	"sluicegate/flat"
	"sluicegate/maker"
	"sluicegate/net"
)

// stmts executes statements where the node on, or maker.Always, tells whether
// they are executed. Each assignment changes its target under that condition,
// instead of each If choosing between its branches: the number of nodes then
// depends on that of the statements, however deeply they are nested.
func (b *builder) stmts(list []flat.Stmt, on int) {
	for _, s := range list {
		if b.Err != api.OK {
			return
		}
		value := b.expr(s.Value)
		switch s.Kind {
		case flat.Set:
			b.assign(b.now, s.Target, value, on)
		case flat.Later:
			b.assign(b.later, s.Target, value, on)
		case flat.If:
			b.branches(s, value, on)
		case flat.Assert:
			b.Net.Asserts = append(b.Net.Asserts, net.Assert{Name: b.assertion(s.Assert), On: b.condition(on), Is: value})
		}
	}
}

// branches executes those of an If. A register that is certainly assigned, in
// whichever of them is executed, does not depend on what it would receive without
// the If.
func (b *builder) branches(s flat.Stmt, value, on int) {
	if on == maker.Always {
		for _, sig := range b.certain(s) {
			b.later[sig] = maker.None
		}
	}
	b.stmts(s.Body, b.Both(on, b.Truth(value)))
	if len(s.Else) > 0 {
		b.stmts(s.Else, b.Both(on, b.Un(bv.Zero, value)))
	}
}

// assertion returns the name of an assertion, or nothing if there is none.
func (b *builder) assertion(number int) string {
	if number < 0 || number >= len(b.design.Asserts) {
		return ""
	}
	return b.design.Asserts[number]
}

// condition returns the node of a condition that may be maker.Always.
func (b *builder) condition(on int) int {
	if on == maker.Always {
		return b.Number(1, 1)
	}
	return on
}

// assign changes the node of a signal, or adds a write to a memory.
func (b *builder) assign(nodes []int, t flat.Target, value, on int) {
	switch {
	case !b.has(t.Sig):
		b.Fail(api.ErrRange)
	case b.roles[t.Sig] != flat.Memory:
		nodes[t.Sig] = b.assigned(nodes[t.Sig], t, value, on)
	case len(t.Index) == 0:
		b.Fail(api.ErrRange)
	default:
		m := &b.Net.Mems[b.memory(t.Sig)]
		m.Ports = append(m.Ports, net.Port{On: b.condition(on), At: b.expr(t.Index[0]), Val: value})
	}
}

// assigned returns what old becomes if the value is assigned to the target under
// a condition. A signal that has no value yet needs no choice: nothing reads it
// before it has certainly been assigned, under the other condition as well.
func (b *builder) assigned(old int, t flat.Target, value, on int) int {
	width := b.design.Sigs[t.Sig].Width
	if old == maker.None && b.isWhole(t) {
		return b.checked(value, width)
	}
	if old == maker.None {
		old = b.Number(width, 0)
	}
	switch {
	case b.isWhole(t):
		return b.Choose(on, b.checked(value, width), old)
	case len(t.Index) > 0:
		return b.Choose(on, b.withBit(old, b.expr(t.Index[0]), b.checked(value, 1)), old)
	}
	value = b.checked(value, t.Width)
	if on != maker.Always {
		value = b.Choose(on, value, b.Part(old, t.Lo, t.Width))
	}
	above := t.Lo + t.Width
	return b.Cat(b.Part(old, above, width-above), value, b.Part(old, 0, t.Lo))
}

// checked returns x, which must have that width.
func (b *builder) checked(x, width int) int {
	if b.Width(x) != width {
		b.Fail(api.ErrWidth)
	}
	return x
}

// withBit returns old with a bit in place of the one with the number at. A one
// that is shifted beyond old is no bit of it.
func (b *builder) withBit(old, at, bit int) int {
	width := b.Width(old)
	all := max(width, b.Width(at))
	one := b.Bin(bv.Shl, b.Number(all, 1), b.Wide(at, all))
	hole := b.Part(one, 0, width)
	with, without := b.Bin(bv.Or, old, hole), b.Bin(bv.And, old, b.Un(bv.Not, hole))
	return b.Choose(bit, with, without)
}
