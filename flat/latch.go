package flat

import "maps"

// hasLatch reports whether a Comb process keeps something from one execution to
// the next.
func (a *analyzer) hasLatch(i int) bool {
	if a.Procs[i].Kind != Comb {
		return false
	}
	own := a.work[i].writes
	done := uses{}
	if !a.follow(a.Procs[i].Body, own, done) {
		return true
	}
	for sig := range own {
		if done[sig] != a.all(sig) {
			return true
		}
	}
	return false
}

// follow adds to done what statements certainly write. It returns false if one
// of them reads an own signal, not all of which is done.
func (a *analyzer) follow(list []Stmt, own, done uses) bool {
	for _, s := range list {
		if a.readsTooEarly(s, own, done) {
			return false
		}
		switch {
		case s.Kind == Set && len(s.Target.Index) == 0 && a.has(s.Target.Sig):
			done.add(s.Target.Sig, a.written(s.Target))
		case s.Kind == If:
			other := maps.Clone(done)
			if !a.follow(s.Body, own, done) || !a.follow(s.Else, own, other) {
				return false
			}
			for sig, bits := range done {
				done[sig] = bits.and(other[sig])
			}
		}
	}
	return true
}

func (a *analyzer) readsTooEarly(s Stmt, own, done uses) bool {
	found := false
	a.eachRead(s, func(sig int, _ mask) {
		_, isOwn := own[sig]
		found = found || isOwn && done[sig] != a.all(sig)
	})
	return found
}
