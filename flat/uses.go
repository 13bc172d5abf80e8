package flat

import (
	"maps"
	"slices"

	"sluicegate/api"
	"sluicegate/typed"
)

const maskBits = 64

// mask is a set of bits of a signal. It has as many as the widest signal.
type mask [api.MaxWidth / maskBits]uint64

// span returns width bits from bit lo on, of a signal of size bits. Bits that
// the signal does not have are in no mask.
func span(lo, width, size int) mask {
	var m mask
	if lo < 0 {
		return m
	}
	for i := lo; i < lo+min(width, size-lo); i++ {
		m[i/maskBits] |= 1 << (i % maskBits)
	}
	return m
}

func (m mask) has(i int) bool { return m[i/maskBits]>>(i%maskBits)&1 == 1 }

func (m mask) or(o mask) mask {
	for i, word := range o {
		m[i] |= word
	}
	return m
}

func (m mask) and(o mask) mask {
	for i, word := range o {
		m[i] &= word
	}
	return m
}

func (m mask) overlaps(o mask) bool { return m.and(o) != mask{} }

// uses contains the signals that are used, and which of their bits.
type uses map[int]mask

func (u uses) add(sig int, bits mask) { u[sig] = u[sig].or(bits) }

// size returns the number of bits of a signal as masks have them: a memory has
// one.
func (d Design) size(sig int) int {
	if d.Sigs[sig].Words != 0 {
		return 1
	}
	return min(max(d.Sigs[sig].Width, 0), api.MaxWidth)
}

func (d Design) has(sig int) bool { return sig >= 0 && sig < len(d.Sigs) }

// all returns all bits of a signal.
func (d Design) all(sig int) mask { return span(0, api.MaxWidth, d.size(sig)) }

// reads returns what statements read.
func (d Design) reads(list []Stmt) uses {
	found := uses{}
	eachStmt(list, func(s Stmt) {
		d.eachRead(s, found.add)
	})
	return found
}

// writes returns what statements of these kinds write.
func (d Design) writes(list []Stmt, kinds ...int) uses {
	found := uses{}
	eachStmt(list, func(s Stmt) {
		if slices.Contains(kinds, s.Kind) && d.has(s.Target.Sig) {
			found.add(s.Target.Sig, d.written(s.Target))
		}
	})
	return found
}

// written returns the bits that an assignment to a target may change.
func (d Design) written(t Target) mask {
	if len(t.Index) > 0 {
		return d.all(t.Sig)
	}
	return span(t.Lo, t.Width, d.size(t.Sig))
}

// eachStmt visits statements and all statements in them.
func eachStmt(list []Stmt, visit func(s Stmt)) {
	for _, s := range list {
		visit(s)
		eachStmt(s.Body, visit)
		eachStmt(s.Else, visit)
	}
}

// eachRead visits what a statement reads itself, without the statements in it.
func (d Design) eachRead(s Stmt, visit func(sig int, bits mask)) {
	d.eachRef(s.Value, visit)
	for _, e := range s.Target.Index {
		d.eachRef(e, visit)
	}
}

// eachRef visits the signals in an expression. Of a part of a signal, only that
// part is read.
func (d Design) eachRef(e typed.Expr, visit func(sig int, bits mask)) {
	switch {
	case e.Kind == typed.Slice && len(e.Args) == 1 && e.Args[0].Kind == typed.Ref:
		if sig := e.Args[0].Sig; d.has(sig) {
			visit(sig, span(e.Lo, e.Width, d.size(sig)))
		}
		return
	case (e.Kind == typed.Ref || e.Kind == typed.Word) && d.has(e.Sig):
		visit(e.Sig, d.all(e.Sig))
	}
	for _, arg := range e.Args {
		d.eachRef(arg, visit)
	}
}

// listed returns uses as a list.
func (d Design) listed(u uses) []Use {
	var list []Use
	for _, sig := range slices.Sorted(maps.Keys(u)) {
		bits := make([]bool, d.size(sig))
		for i := range bits {
			bits[i] = u[sig].has(i)
		}
		list = append(list, Use{sig, bits})
	}
	return list
}
