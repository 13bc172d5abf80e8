package flat_test

import (
	"slices"

	"sluicegate/api"
	"sluicegate/flat"
	"sluicegate/typed"
)

// model is the chapter, word for word, on sets of single bits.
type model struct{ flat.Design }

type bit struct{ sig, at int }

type bitSet map[bit]bool

func (m model) size(sig int) int {
	if m.Sigs[sig].Words != 0 {
		return 1
	}
	return m.Sigs[sig].Width
}

func (m model) addAll(set bitSet, sig int) {
	for i := range m.size(sig) {
		set[bit{sig, i}] = true
	}
}

func (m model) readExpr(set bitSet, e typed.Expr) {
	if e.Kind == typed.Slice && e.Args[0].Kind == typed.Ref {
		for i := range e.Width {
			set[bit{e.Args[0].Sig, e.Lo + i}] = true
		}
		return
	}
	if e.Kind == typed.Ref || e.Kind == typed.Word {
		m.addAll(set, e.Sig)
	}
	for _, arg := range e.Args {
		m.readExpr(set, arg)
	}
}

// ownReads returns what a statement reads, without the statements in it.
func (m model) ownReads(s flat.Stmt) bitSet {
	set := bitSet{}
	m.readExpr(set, s.Value)
	for _, e := range s.Target.Index {
		m.readExpr(set, e)
	}
	return set
}

func (m model) ownWrites(s flat.Stmt) bitSet {
	set := bitSet{}
	if s.Kind != flat.Set && s.Kind != flat.Later {
		return set
	}
	if len(s.Target.Index) > 0 {
		m.addAll(set, s.Target.Sig)
	}
	for i := range s.Target.Width {
		set[bit{s.Target.Sig, s.Target.Lo + i}] = true
	}
	return set
}

// all returns the statements of a process and those in them.
func (m model) all(list []flat.Stmt) []flat.Stmt {
	var found []flat.Stmt
	for _, s := range list {
		found = append(found, s)
		found = append(found, m.all(s.Body)...)
		found = append(found, m.all(s.Else)...)
	}
	return found
}

func (m model) reads(p int) bitSet {
	set := bitSet{}
	for _, s := range m.all(m.Procs[p].Body) {
		for b := range m.ownReads(s) {
			set[b] = true
		}
	}
	return set
}

// writes returns what statements of these kinds write.
func (m model) writes(p int, kinds ...int) bitSet {
	set := bitSet{}
	for _, s := range m.all(m.Procs[p].Body) {
		if slices.Contains(kinds, s.Kind) {
			for b := range m.ownWrites(s) {
				set[b] = true
			}
		}
	}
	return set
}

func (s bitSet) has(sig int) bool {
	for b := range s {
		if b.sig == sig {
			return true
		}
	}
	return false
}

func (s bitSet) meets(o bitSet) bool {
	for b := range s {
		if o[b] {
			return true
		}
	}
	return false
}

func (s bitSet) sharesSignal(o bitSet) bool {
	for b := range s {
		if o.has(b.sig) {
			return true
		}
	}
	return false
}

// uses returns a set as the package does.
func (m model) uses(set bitSet) []flat.Use {
	var list []flat.Use
	for sig := range m.Sigs {
		if !set.has(sig) {
			continue
		}
		bits := make([]bool, m.size(sig))
		for i := range bits {
			bits[i] = set[bit{sig, i}]
		}
		list = append(list, flat.Use{Sig: sig, Bits: bits})
	}
	return list
}

func (m model) isClocked(p int) bool { return m.Procs[p].Kind == flat.Clocked }

func (m model) role(sig int) int {
	written := func(clocked bool, kinds ...int) bool {
		for p := range m.Procs {
			if m.isClocked(p) == clocked && m.writes(p, kinds...).has(sig) {
				return true
			}
		}
		return false
	}
	switch {
	case slices.Contains(m.Inputs, sig):
		return flat.Input
	case m.Sigs[sig].Words != 0:
		return flat.Memory
	case written(false, flat.Set, flat.Later):
		return flat.Net
	case written(true, flat.Later):
		return flat.Reg
	case written(true, flat.Set):
		return flat.Temp
	}
	return 0
}

// analyze returns what Analyze should return.
func (m model) analyze() (flat.Info, api.Pos, api.Errno) {
	var roles []int
	for sig := range m.Sigs {
		roles = append(roles, m.role(sig))
	}
	for _, item := range []struct {
		err     api.Errno
		isWrong func(p int) bool
	}{{api.ErrKind, m.isKindError}, {api.ErrDrive, m.isDriveError}, {api.ErrRace, m.isRace}} {
		if p := slices.IndexFunc(m.numbers(), item.isWrong); p >= 0 {
			return flat.Info{}, m.Procs[p].Pos, item.err
		}
	}
	for sig := range m.Sigs {
		if m.isUndriven(sig) {
			return flat.Info{}, m.Places[sig], api.ErrDrive
		}
	}
	if p := slices.IndexFunc(m.numbers(), m.isLatch); p >= 0 {
		return flat.Info{}, m.Procs[p].Pos, api.ErrLatch
	}
	before := m.closure()
	if p := slices.IndexFunc(m.numbers(), func(p int) bool { return before[p][p] }); p >= 0 {
		return flat.Info{}, m.Procs[p].Pos, api.ErrLoop
	}
	for i, x := range m.Starts {
		earlier := slices.ContainsFunc(m.Starts[:i], func(o flat.Start) bool { return o.Sig == x.Sig })
		switch {
		case x.Sig < 0 || x.Sig >= len(m.Sigs):
			return flat.Info{}, api.Pos{}, api.ErrKind
		case roles[x.Sig] != flat.Reg && roles[x.Sig] != flat.Temp, earlier, x.Val.Width() != m.Sigs[x.Sig].Width:
			return flat.Info{}, m.Places[x.Sig], api.ErrKind
		}
	}
	return flat.Info{Roles: roles, Order: m.order(before)}, api.Pos{}, api.OK
}

func (m model) numbers() []int {
	var list []int
	for p := range m.Procs {
		list = append(list, p)
	}
	return list
}

func (m model) isKindError(p int) bool {
	kind := m.Procs[p].Kind
	return slices.ContainsFunc(m.all(m.Procs[p].Body), func(s flat.Stmt) bool {
		return (kind == flat.Wire || kind == flat.Comb) && (s.Kind == flat.Later || s.Kind == flat.Assert) ||
			s.Kind == flat.Set && m.Sigs[s.Target.Sig].Words != 0 ||
			kind == flat.Wire && len(s.Target.Index) > 0
	})
}

func (m model) isDriveError(p int) bool {
	mine := m.writes(p, flat.Set, flat.Later)
	for _, sig := range m.Inputs {
		if mine.has(sig) {
			return true
		}
	}
	for before := range p {
		theirs := m.writes(before, flat.Set, flat.Later)
		areWires := m.Procs[p].Kind == flat.Wire && m.Procs[before].Kind == flat.Wire
		if areWires && mine.meets(theirs) || !areWires && mine.sharesSignal(theirs) {
			return true
		}
	}
	return false
}

func (m model) isRace(p int) bool {
	if m.writes(p, flat.Set).sharesSignal(m.writes(p, flat.Later)) {
		return true
	}
	for sig := range m.Sigs {
		if m.role(sig) == flat.Temp && m.reads(p).has(sig) && !m.writes(p, flat.Set).has(sig) {
			return true
		}
	}
	return false
}

func (m model) isUndriven(sig int) bool {
	role := m.role(sig)
	if role == flat.Input || role == flat.Memory {
		return false
	}
	written, wired := false, bitSet{}
	for p := range m.Procs {
		set := m.writes(p, flat.Set, flat.Later)
		written = written || set.has(sig)
		for b := range set {
			wired[b] = wired[b] || m.Procs[p].Kind == flat.Wire
		}
	}
	if !written {
		return true
	}
	isWired := false
	for p := range m.Procs {
		isWired = isWired || m.Procs[p].Kind == flat.Wire && m.writes(p, flat.Set).has(sig)
	}
	for i := range m.size(sig) {
		if isWired && !wired[bit{sig, i}] {
			return true
		}
	}
	return false
}

// paths returns all sequences of statements that can be executed. Of an If,
// they contain the condition.
func (m model) paths(list []flat.Stmt) [][]flat.Stmt {
	paths := [][]flat.Stmt{nil}
	for _, s := range list {
		ways := [][]flat.Stmt{{s}}
		if s.Kind == flat.If {
			head := flat.Stmt{Kind: flat.If, Value: s.Value}
			ways = nil
			for _, way := range append(m.paths(s.Body), m.paths(s.Else)...) {
				ways = append(ways, append([]flat.Stmt{head}, way...))
			}
		}
		var longer [][]flat.Stmt
		for _, path := range paths {
			for _, way := range ways {
				longer = append(longer, slices.Concat(path, way))
			}
		}
		paths = longer
	}
	return paths
}

// isLatch: what is not certainly written is not written on some path.
func (m model) isLatch(p int) bool {
	if m.Procs[p].Kind != flat.Comb {
		return false
	}
	own := bitSet{}
	for b := range m.writes(p, flat.Set, flat.Later) {
		m.addAll(own, b.sig)
	}
	for _, path := range m.paths(m.Procs[p].Body) {
		done := bitSet{}
		for _, s := range path {
			for b := range own {
				if m.ownReads(s).has(b.sig) && !done[b] {
					return true
				}
			}
			if s.Kind == flat.Set && len(s.Target.Index) == 0 {
				for b := range m.ownWrites(s) {
					done[b] = true
				}
			}
		}
		for b := range own {
			if !done[b] {
				return true
			}
		}
	}
	return false
}

// closure returns, for two processes, whether the second one depends on the
// first one.
func (m model) closure() [][]bool {
	before := make([][]bool, len(m.Procs))
	for p := range before {
		before[p] = make([]bool, len(m.Procs))
		for q := range before[p] {
			isOwn := p == q && m.Procs[p].Kind == flat.Comb
			before[p][q] = !m.isClocked(p) && !m.isClocked(q) && !isOwn && m.writes(p, flat.Set).meets(m.reads(q))
		}
	}
	for via := range before {
		for p := range before {
			for q := range before {
				before[p][q] = before[p][q] || before[p][via] && before[via][q]
			}
		}
	}
	return before
}

func (m model) order(before [][]bool) []int {
	var order []int
	for {
		next := slices.IndexFunc(m.numbers(), func(p int) bool {
			if m.isClocked(p) || slices.Contains(order, p) {
				return false
			}
			return !slices.ContainsFunc(m.numbers(), func(q int) bool { return before[q][p] && !slices.Contains(order, q) })
		})
		if next < 0 {
			return order
		}
		order = append(order, next)
	}
}
