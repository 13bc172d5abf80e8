package sample

import (
	"math"

	"sluicegate/bv"
	"sluicegate/exec"
	"sluicegate/flat"
)

// State returns a state of a design.
func (pick Choice) State(d flat.Design) *exec.State {
	s := exec.New(d)
	for i, x := range d.Sigs {
		s.SetSig(i, pick.Vec(x.Width))
		for at := range x.Words {
			s.SetWord(i, at, pick.Vec(x.Width))
		}
	}
	return s
}

// Ins returns values for the inputs of a design.
func (pick Choice) Ins(d flat.Design) []bv.Vec {
	var list []bv.Vec
	for _, sig := range d.Inputs {
		list = append(list, pick.Vec(d.Sigs[sig].Width))
	}
	return list
}

// Disturb changes something in a design, so that it may not be valid.
func (pick Choice) Disturb(d flat.Design) {
	if len(d.Procs) == 0 {
		return
	}
	list := d.Procs[pick(len(d.Procs))].Body
	for {
		x := &list[pick(len(list))]
		if len(x.Body) > 0 && pick(2) == 0 {
			list = x.Body
			continue
		}
		e := &x.Value
		for len(e.Args) > 0 && pick(2) == 0 {
			e = &e.Args[pick(len(e.Args))]
		}
		numbers := []*int{&x.Target.Sig, &x.Target.Lo, &x.Target.Width, &e.Kind, &e.Op, &e.Width, &e.Sig, &e.Lo, &x.Kind}
		*numbers[pick(len(numbers))] = pick.from(0, 1, 2, 3, 5, 100, -1, 1<<40, math.MinInt, math.MaxInt)
		return
	}
}
