package evsim

import (
	"slices"

	"sluicegate/api"
	"sluicegate/bv"
	"sluicegate/exec"
)

// effect is what a Clocked process leads to beyond what it sets itself.
type effect struct {
	writes []exec.Write
	checks []exec.Check
}

// Settle executes active processes until none is active. It returns how many
// picks were used.
func (s *Sim) Settle(picks ...int) int {
	if s == nil {
		return 0
	}
	return s.settle(picks, func(int, effect) {})
}

// Step performs a clock step. It returns the checked assertions, and how many
// picks were used.
func (s *Sim) Step(picks ...int) ([]exec.Check, int) {
	if s == nil {
		return nil, 0
	}
	used := s.Settle(picks...)
	s.activate(nobody, s.clocked...)
	effects := make([]effect, len(s.procs))
	used += s.settle(picks[used:], func(proc int, x effect) { effects[proc] = x })
	var writes []exec.Write
	var checks []exec.Check
	for _, x := range effects {
		writes = append(writes, x.writes...)
		checks = append(checks, x.checks...)
	}
	s.wake(nobody, exec.Apply(s.state, writes...)...)
	used += s.Settle(picks[used:]...)
	return checks, used
}

// Cycle assigns the inputs and performs a clock step.
func (s *Sim) Cycle(inputs []bv.Vec, picks ...int) ([]exec.Check, api.Errno) {
	if s == nil || len(inputs) != len(s.inputs) {
		return nil, api.ErrRange
	}
	for i, v := range inputs {
		if err := s.Set(s.inputs[i], v); err != api.OK {
			return nil, err
		}
	}
	checks, _ := s.Step(picks...)
	return checks, api.OK
}

// settle executes active processes until none is active, and passes on what each
// of them leads to.
func (s *Sim) settle(picks []int, keep func(proc int, x effect)) int {
	used := 0
	next := func() int {
		if used == len(picks) {
			return s.leastRank()
		}
		used++
		return wrap(picks[used-1], len(s.active))
	}
	// Without picks, no process changes anything twice, and so each one becomes
	// active at most once for each process. The bound is for designs with
	// expressions that are not valid, in which this may never end.
	for range len(picks) + len(s.procs)*(len(s.procs)+1) {
		if len(s.active) == 0 {
			break
		}
		keep(s.execute(next()))
	}
	return used
}

// execute executes the active process with the index at.
func (s *Sim) execute(at int) (proc int, x effect) {
	proc = s.active[at]
	s.active = slices.Delete(s.active, at, at+1)
	writes, checks, changed := exec.Run(s.state, s.procs[proc])
	s.runs++
	s.wake(proc, changed...)
	return proc, effect{writes, checks}
}

// wake makes all Wire and Comb processes active that read signals, except for
// one.
func (s *Sim) wake(except int, sigs ...int) {
	for _, sig := range sigs {
		s.activate(except, s.readers[sig]...)
	}
}

func (s *Sim) activate(except int, procs ...int) {
	for _, proc := range procs {
		at, isActive := slices.BinarySearch(s.active, proc)
		if !isActive && proc != except {
			s.active = slices.Insert(s.active, at, proc)
		}
	}
}

// leastRank returns the index of the active process with the least rank.
func (s *Sim) leastRank() int {
	best := 0
	for at, proc := range s.active {
		if s.ranks[proc] < s.ranks[s.active[best]] {
			best = at
		}
	}
	return best
}

// wrap returns n modulo count, which is not negative.
func wrap(n, count int) int { return (n%count + count) % count }
