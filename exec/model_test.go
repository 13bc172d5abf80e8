package exec_test

import (
	"math/rand/v2"
	"slices"
	"testing"

	"sluicegate/bv"
	"sluicegate/exec"
	"sluicegate/flat"
	"sluicegate/sample"
	"sluicegate/typed"
)

// model is a state as the set of its bits: of a signal or word of a memory, each
// of which is a row.
type model struct {
	flat.Design
	bits map[bit]bool
	list []exec.Write
	done []exec.Check
}

type bit struct{ sig, row, at int }

func modelOf(d flat.Design, s *exec.State) *model {
	m := &model{Design: d, bits: map[bit]bool{}}
	for i, x := range d.Sigs {
		for at := range x.Width {
			m.bits[bit{i, 0, at}] = s.Sig(i).Bit(at)
			for row := range x.Words {
				m.bits[bit{i, row, at}] = s.Word(i, row).Bit(at)
			}
		}
	}
	return m
}

func (m *model) row(sig, row int) bv.Vec {
	bits := make([]bool, m.Sigs[sig].Width)
	for at := range bits {
		bits[at] = m.bits[bit{sig, row, at}]
	}
	v, _ := bv.Of(bits...)
	return v
}

func (m *model) Sig(n int) bv.Vec { return m.row(n, 0) }

func (m *model) Word(n, at int) bv.Vec { return m.row(n, at) }

// assign sets those bits of a target that exist.
func (m *model) assign(t flat.Target, at int, v bv.Vec) {
	x := m.Sigs[t.Sig]
	for i, is := range v.Bits() {
		where := bit{t.Sig, 0, t.Lo + i}
		if len(t.Index) > 0 {
			where.at = at
		}
		if x.Words > 0 {
			where = bit{t.Sig, at, i}
		}
		if _, exists := m.bits[where]; exists {
			m.bits[where] = is
		}
	}
}

func (m *model) run(list []flat.Stmt) {
	for _, x := range list {
		v, at := typed.Eval(x.Value, m), 0
		for _, e := range x.Target.Index {
			at = typed.Eval(e, m).Num(1 << 40)
		}
		switch {
		case x.Kind == flat.Set:
			m.assign(x.Target, at, v)
		case x.Kind == flat.Later:
			m.list = append(m.list, exec.Write{Target: x.Target, At: at, Val: v})
		case x.Kind == flat.Assert:
			m.done = append(m.done, exec.Check{Assert: x.Assert, Holds: slices.Contains(v.Bits(), true)})
		case slices.Contains(v.Bits(), true):
			m.run(x.Body)
		default:
			m.run(x.Else)
		}
	}
}

// changed returns the signals of which a bit is not that of a state.
func (m *model) changed(s *exec.State) []int {
	other := modelOf(m.Design, s)
	var list []int
	for where, is := range m.bits {
		if other.bits[where] != is && !slices.Contains(list, where.sig) {
			list = append(list, where.sig)
		}
	}
	slices.Sort(list)
	return list
}

// TestP15_2AnyProcess compares processes with the model, and so the Writes that
// they lead to, one by one and together.
func TestP15_2AnyProcess(t *testing.T) {
	pick := sample.Choice(rand.New(rand.NewPCG(15, 6)).IntN)
	sets, laters, asserts := 0, 0, 0
	for range 1000 {
		d := pick.Design()
		text := show(d)
		s := pick.State(d)
		for _, p := range d.Procs {
			before := s.Clone()
			m := modelOf(d, s)
			m.run(p.Body)
			w, c, l := exec.Run(s, p)
			if show(w) != show(m.list) || show(c) != show(m.done) || show(l) != show(m.changed(before)) || len(m.changed(s)) > 0 {
				t.Fatalf("P15.2: %v, not %v; %v, not %v; %v, not %v\n%s", w, m.list, c, m.done, l, m.changed(before), flat.Text(d))
			}
			sets, laters, asserts = sets+len(l), laters+len(w), asserts+len(c)
			mustApply(t, d, s.Clone(), w...)
			for _, x := range w {
				mustApply(t, d, s, x)
			}
		}
		if show(d) != text {
			t.Fatal("P15.2: an argument has changed")
		}
	}
	if sets < 1000 || laters < 1000 || asserts < 300 {
		t.Errorf("P15.2: only %d, %d and %d", sets, laters, asserts)
	}
}

// mustApply fails unless Apply does what the model does.
func mustApply(t *testing.T, d flat.Design, s *exec.State, list ...exec.Write) {
	t.Helper()
	before := s.Clone()
	m := modelOf(d, s)
	for _, w := range list {
		m.assign(w.Target, w.At, w.Val)
	}
	l := exec.Apply(s, list...)
	if show(l) != show(m.changed(before)) || len(m.changed(s)) > 0 {
		t.Fatalf("P15.3: %v, not %v, of %v\n%s", l, m.changed(before), list, flat.Text(d))
	}
}

// TestP15_3AnyWrites compares many Writes to a few places with the model.
func TestP15_3AnyWrites(t *testing.T) {
	pick := sample.Choice(rand.New(rand.NewPCG(15, 7)).IntN)
	d := design(typed.Sig{Width: 2}, typed.Sig{Width: 3}, typed.Sig{Width: 2, Words: 2}, typed.Sig{Width: 1, Words: 1}, typed.Sig{Width: 128})
	for range 20000 {
		s := pick.State(d)
		var list []exec.Write
		for range pick(8) {
			sig := pick(len(d.Sigs))
			x := d.Sigs[sig]
			lo := pick(x.Width)
			w := exec.Write{Target: flat.Target{Sig: sig, Lo: lo, Width: 1 + pick(x.Width-lo)}}
			w.Val = pick.Vec(w.Target.Width)
			if x.Words > 0 || pick(3) == 0 {
				w = setAt(sig, pick(x.Width+x.Words+2)-1, 1, uint64(pick(2)))
			}
			if x.Words > 0 {
				w.Val = pick.Vec(x.Width)
			}
			list = append(list, w)
		}
		mustApply(t, d, s, list...)
	}
}

// TestP15_2AnyTree: calls return for all processes, states and Writes.
func TestP15_2AnyTree(t *testing.T) {
	r := rand.New(rand.NewPCG(15, 8))
	pick := sample.Choice(r.IntN)
	odd := []int{-1 << 63, -1, 0, 1, 2, 3, 4, 64, 127, 128, 129, 1 << 40, 1<<63 - 1}
	some := func() int { return odd[r.IntN(len(odd))] }
	var expr func(depth int) typed.Expr
	expr = func(depth int) typed.Expr {
		e := typed.Expr{Kind: r.IntN(12), Op: r.IntN(21) - 1, Width: some(), Sig: some(), Lo: some(), Val: pick.Vec(pick.Width())}
		for range r.IntN(3) * min(depth, 1) {
			e.Args = append(e.Args, expr(depth-1))
		}
		return e
	}
	target := func() flat.Target {
		t := flat.Target{Sig: some(), Lo: some(), Width: some()}
		for range r.IntN(3) {
			t.Index = append(t.Index, expr(2))
		}
		return t
	}
	var stmts func(depth int) []flat.Stmt
	stmts = func(depth int) []flat.Stmt {
		var list []flat.Stmt
		for range r.IntN(4) * min(depth, 1) {
			list = append(list, flat.Stmt{Kind: r.IntN(6), Target: target(), Value: expr(2), Assert: some(), Body: stmts(depth - 1), Else: stmts(depth - 1)})
		}
		return list
	}
	for range 5000 {
		var sigs []typed.Sig
		for range r.IntN(5) {
			sigs = append(sigs, typed.Sig{Width: some(), Words: some() * r.IntN(2)})
		}
		s := exec.New(design(sigs...))
		p := flat.Proc{Kind: some(), Body: stmts(3)}
		before := show(p)
		w, _, l := exec.Run(s, p)
		w = append(w, exec.Write{Target: target(), At: some(), Val: pick.Vec(pick.Width())})
		l = append(l, exec.Apply(s, w...)...)
		for _, n := range l {
			if n < 0 || n >= len(sigs) {
				t.Errorf("P15.2: signal %d", n)
			}
		}
		if show(p) != before {
			t.Fatal("P15.2: an argument has changed")
		}
	}
}

// TestP15_2DeepProcess: many nested statements and expressions.
func TestP15_2DeepProcess(t *testing.T) {
	const depth = 20000
	d := design(typed.Sig{Width: 4}, typed.Sig{Width: 4, Words: 3})
	e := typed.Signal(0, d.Sigs[0])
	list := []flat.Stmt{{Kind: flat.Set, Target: flat.Target{Width: 4}, Value: typed.Num(vec(4, 9))}}
	for range depth {
		e = typed.Expr{Kind: typed.Un, Op: bv.Not, Width: 4, Args: []typed.Expr{e}}
		list = []flat.Stmt{{Kind: flat.If, Value: typed.Num(vec(1, 0)), Else: list}}
	}
	list = append(list, flat.Stmt{Kind: flat.Later, Target: flat.Target{Sig: 1, Index: []typed.Expr{e}}, Value: e})
	s := exec.New(d)
	w, _, l := exec.Run(s, flat.Proc{Body: list})
	if len(w) != 1 || w[0].At != 9 || w[0].Val != vec(4, 9) || show(l) != "[0]" {
		t.Errorf("P15.2: %d Writes, %v, %s", len(w), l, contents(d, s))
	}
}
