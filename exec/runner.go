package exec

import (
	"slices"

	"sluicegate/api"
	"sluicegate/bv"
	"sluicegate/flat"
	"sluicegate/fresh"
	"sluicegate/typed"
)

// mostIndex is the greatest value of an Index that a Write keeps.
const mostIndex = 1 << 40

// runner executes statements on a state, and keeps what they lead to.
type runner struct {
	*State
	writes []Write
	checks []Check
	before map[place]bv.Vec // what was in the places that have been set
}

// place is a signal (at is 0) or a word of a memory.
type place struct{ sig, at int }

func newRunner(s *State) *runner { return &runner{State: s, before: map[place]bv.Vec{}} }

func (r *runner) execute(list []flat.Stmt) {
	for _, x := range list {
		v := typed.Eval(x.Value, r)
		switch x.Kind {
		case flat.Set:
			r.perform(Write{x.Target, r.index(x.Target), v})
		case flat.Later:
			r.writes = append(r.writes, Write{fresh.Target(x.Target), r.index(x.Target), v})
		case flat.If:
			if isZero(v) {
				r.execute(x.Else)
			} else {
				r.execute(x.Body)
			}
		case flat.Assert:
			r.checks = append(r.checks, Check{x.Assert, !isZero(v)})
		}
	}
}

// index returns the value of the Index of a target, or 0 if it has none.
func (r *runner) index(t flat.Target) int {
	if len(t.Index) == 0 {
		return 0
	}
	return typed.Eval(t.Index[0], r).Num(mostIndex)
}

// perform assigns to what a target is, unless that does not exist.
func (r *runner) perform(w Write) {
	t := w.Target
	switch {
	case len(t.Index) == 0:
		r.setBits(t.Sig, t.Lo, t.Width, w.Val)
	case r.cell(t.Sig).isMemory():
		old := r.Word(t.Sig, w.At)
		if r.SetWord(t.Sig, w.At, w.Val) == api.OK {
			r.keep(place{t.Sig, w.At}, old)
		}
	default:
		r.setBits(t.Sig, w.At, 1, w.Val)
	}
}

// setBits assigns to width bits of a signal from bit lo on.
func (r *runner) setBits(sig, lo, width int, v bv.Vec) {
	old := r.Sig(sig)
	all, err := bv.Put(old, lo, v)
	if err == api.OK && v.Width() == width {
		r.SetSig(sig, all)
		r.keep(place{sig: sig}, old)
	}
}

// keep remembers what was in a place before it was set for the first time.
func (r *runner) keep(p place, old bv.Vec) {
	if _, found := r.before[p]; !found {
		r.before[p] = old
	}
}

// value returns what is in a place now.
func (r *runner) value(p place) bv.Vec {
	if r.cell(p.sig).isMemory() {
		return r.Word(p.sig, p.at)
	}
	return r.Sig(p.sig)
}

// changed returns the signals with places in which there is something else than
// before, in ascending order.
func (r *runner) changed() []int {
	var list []int
	for p, old := range r.before {
		if r.value(p) != old {
			list = append(list, p.sig)
		}
	}
	slices.Sort(list)
	return slices.Compact(list)
}

func isZero(v bv.Vec) bool { return v.Num(1) == 0 }
