package flat

import "sluicegate/api"

// analyzer examines a design, of which it keeps the first error.
type analyzer struct {
	Design
	work   []activity
	driven []driving
	roles  []int
	pos    api.Pos
	err    api.Errno
}

// activity is what a process does.
type activity struct{ reads, sets, laters, writes uses }

// driving is what gives a signal its value: the inputs, Clocked processes with
// Set or Later, Comb processes, or Wire processes, and then which bits of it.
type driving struct {
	isInput, isSet, isLater, isComb, isWired bool
	wired                                    mask
	owner                                    int // the last process that does
}

func newAnalyzer(d Design) *analyzer {
	a := &analyzer{Design: d, driven: make([]driving, len(d.Sigs))}
	for _, sig := range d.Inputs {
		if d.has(sig) {
			a.driven[sig].isInput = true
		}
	}
	for i, p := range d.Procs {
		x := activity{d.reads(p.Body), d.writes(p.Body, Set), d.writes(p.Body, Later), d.writes(p.Body, Set, Later)}
		a.work = append(a.work, x)
		for sig, bits := range x.writes {
			_, isSet := x.sets[sig]
			_, isLater := x.laters[sig]
			a.driven[sig] = a.driven[sig].by(p.Kind, i, isSet, isLater, bits)
		}
	}
	for sig := range d.Sigs {
		a.roles = append(a.roles, a.role(sig))
	}
	return a
}

// by adds a process to what writes a signal.
func (x driving) by(kind, proc int, isSet, isLater bool, bits mask) driving {
	x.owner = proc
	switch kind {
	case Clocked:
		x.isSet, x.isLater = x.isSet || isSet, x.isLater || isLater
	case Wire:
		x.isWired, x.wired = true, x.wired.or(bits)
	default:
		x.isComb = true
	}
	return x
}

// role returns the role of a signal, or 0 if it has none.
func (a *analyzer) role(sig int) int {
	x := a.driven[sig]
	switch {
	case x.isInput:
		return Input
	case a.Sigs[sig].Words != 0:
		return Memory
	case x.isWired || x.isComb:
		return Net
	case x.isLater:
		return Reg
	case x.isSet:
		return Temp
	}
	return 0
}

func (a *analyzer) fail(pos api.Pos, err api.Errno) {
	if a.err == api.OK {
		a.pos, a.err = pos, err
	}
}

// firstProc fails at the first process that is wrong.
func (a *analyzer) firstProc(err api.Errno, isWrong func(i int) bool) {
	if a.err != api.OK {
		return
	}
	for i, p := range a.Procs {
		if isWrong(i) {
			a.fail(p.Pos, err)
			return
		}
	}
}

// firstSig fails at the first signal that is wrong.
func (a *analyzer) firstSig(err api.Errno, isWrong func(sig int) bool) {
	if a.err != api.OK {
		return
	}
	for sig := range a.Sigs {
		if isWrong(sig) {
			a.fail(a.place(sig), err)
			return
		}
	}
}

// place returns the position of a signal.
func (a *analyzer) place(sig int) api.Pos {
	if sig >= len(a.Places) {
		return api.Pos{}
	}
	return a.Places[sig]
}

// hasWrongKind reports whether a process contains a statement of a kind that it
// must not contain.
func (a *analyzer) hasWrongKind(i int) bool {
	p := a.Procs[i]
	found := false
	eachStmt(p.Body, func(s Stmt) {
		switch {
		case p.Kind != Clocked && (s.Kind == Later || s.Kind == Assert):
			found = true
		case s.Kind == Set && a.has(s.Target.Sig) && a.Sigs[s.Target.Sig].Words != 0:
			found = true
		case p.Kind == Wire && len(s.Target.Index) > 0:
			found = true
		}
	})
	return found
}

// drivers returns a function that is called for one process after the other and
// reports whether it writes what it must not write because of those before it.
func (a *analyzer) drivers() func(i int) bool {
	before := make([]driving, len(a.Sigs))
	return func(i int) bool {
		kind := a.Procs[i].Kind
		for sig, bits := range a.work[i].writes {
			x := before[sig]
			overlaps := x.isWired && (kind != Wire || x.wired.overlaps(bits))
			if a.roles[sig] == Input || x.isComb || x.isSet || x.isLater || overlaps {
				return true
			}
			before[sig] = x.by(kind, i, true, true, bits)
		}
		return false
	}
}

// hasRace reports whether the result of a process depends on the order of the
// Clocked processes.
func (a *analyzer) hasRace(i int) bool {
	x := a.work[i]
	for sig := range x.sets {
		if _, both := x.laters[sig]; both {
			return true
		}
	}
	for sig := range x.reads {
		if a.roles[sig] == Temp && a.driven[sig].owner != i {
			return true
		}
	}
	return false
}

// lacksDriver reports whether something of a signal is not written that should
// be.
func (a *analyzer) lacksDriver(sig int) bool {
	x := a.driven[sig]
	return a.roles[sig] == 0 || a.roles[sig] == Net && x.isWired && x.wired != a.all(sig)
}

// checkStarts fails at the first invalid initial value.
func (a *analyzer) checkStarts() {
	seen := make([]bool, len(a.Sigs))
	for _, x := range a.Starts {
		if !a.has(x.Sig) {
			a.fail(api.Pos{}, api.ErrKind)
			return
		}
		isRegister := a.roles[x.Sig] == Reg || a.roles[x.Sig] == Temp
		if !isRegister || seen[x.Sig] || x.Val.Width() != a.Sigs[x.Sig].Width {
			a.fail(a.place(x.Sig), api.ErrKind)
			return
		}
		seen[x.Sig] = true
	}
}
