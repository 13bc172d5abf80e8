package flat_test

import (
	"math"
	"math/rand/v2"
	"testing"

	"sluicegate/api"
	"sluicegate/bv"
	"sluicegate/flat"
	"sluicegate/typed"
)

// maker makes designs at random.
type maker struct {
	r *rand.Rand
	d flat.Design
}

// chance is true one of so many times.
func (m *maker) chance(of int) bool { return m.r.IntN(of) == 0 }

func (m *maker) sig() int { return m.r.IntN(len(m.d.Sigs)) }

// span returns some bits of a signal.
func (m *maker) span(sig int) (lo, size int) {
	if m.chance(2) {
		return 0, m.d.Sigs[sig].Width
	}
	lo = m.r.IntN(m.d.Sigs[sig].Width)
	return lo, 1 + m.r.IntN(m.d.Sigs[sig].Width-lo)
}

// expr returns an expression of some signals.
func (m *maker) expr() typed.Expr {
	if m.chance(3) {
		return zero(2)
	}
	sig := m.sig()
	x := m.d.Sigs[sig]
	if x.Words != 0 {
		return typed.Expr{Kind: typed.Word, Width: x.Width, Sig: sig, Args: []typed.Expr{m.expr()}}
	}
	e := typed.Signal(sig, x)
	lo, size := m.span(sig)
	e = typed.Part(e, lo, size)
	if m.chance(4) {
		e = typed.Wide(typed.One(bv.RedOr, e), 2, false)
	}
	if m.chance(4) {
		e = typed.Choose(m.expr(), e, e)
	}
	return e
}

func (m *maker) stmts(kind, depth int, own []int) []flat.Stmt {
	var list []flat.Stmt
	for range 1 + m.r.IntN(3) {
		list = append(list, m.stmt(kind, depth, own))
	}
	return list
}

// stmt returns a statement of a process of a kind, which mostly sets its own
// signals.
func (m *maker) stmt(kind, depth int, own []int) flat.Stmt {
	if depth > 0 && m.chance(3) {
		s := flat.Stmt{Kind: flat.If, Value: m.expr(), Body: m.stmts(kind, depth-1, own)}
		if m.chance(2) {
			s.Else = m.stmts(kind, depth-1, own)
		}
		return s
	}
	if m.chance(12) && kind == flat.Clocked || m.chance(80) {
		return assert(m.expr())
	}
	sig := own[m.r.IntN(len(own))]
	if m.chance(30) {
		sig = m.sig()
	}
	assign := flat.Set
	if kind == flat.Clocked && sig%2 == 0 || m.chance(60) {
		assign = flat.Later
	}
	if m.d.Sigs[sig].Words != 0 {
		return indexed(flat.Later, sig, m.expr(), m.expr())
	}
	if kind != flat.Wire && m.chance(6) || m.chance(60) {
		return indexed(assign, sig, m.expr(), m.expr())
	}
	lo, size := m.span(sig)
	return part(assign, sig, lo, size, m.expr())
}

// design returns a design, which often has no error.
func (m *maker) design() flat.Design {
	m.d = flat.Design{Sigs: []typed.Sig{{Width: 2}}, Inputs: []int{0}}
	if m.chance(20) {
		m.d.Inputs = []int{0, 1}
	}
	for range 1 + m.r.IntN(5) {
		x := typed.Sig{Width: 1 + m.r.IntN(3)}
		if m.chance(8) {
			x.Words = 1 + m.r.IntN(3)
		}
		m.d.Sigs = append(m.d.Sigs, x)
	}
	for sig := 1; sig < len(m.d.Sigs); sig++ {
		if !m.chance(20) {
			m.process(sig)
		}
	}
	m.r.Shuffle(len(m.d.Procs), func(i, j int) { m.d.Procs[i], m.d.Procs[j] = m.d.Procs[j], m.d.Procs[i] })
	for range m.r.IntN(3) * m.r.IntN(2) {
		sig := m.r.IntN(len(m.d.Sigs)+2) - 1
		m.d.Starts = append(m.d.Starts, flat.Start{Sig: sig, Val: vec(1+m.r.IntN(3), 0)})
	}
	return placed(m.d)
}

// process adds one or more processes for a signal and maybe others.
func (m *maker) process(sig int) {
	own := []int{sig}
	if m.chance(6) {
		own = append(own, m.sig())
	}
	kind := 1 + m.r.IntN(3)
	var body []flat.Stmt
	switch {
	case m.d.Sigs[sig].Words != 0:
		kind = flat.Clocked
	case kind == flat.Wire && m.chance(2):
		for i := range m.d.Sigs[sig].Width {
			m.d.Procs = append(m.d.Procs, proc(flat.Wire, part(flat.Set, sig, i, 1, m.expr())))
		}
		return
	case kind == flat.Wire:
		m.d.Procs = append(m.d.Procs, proc(flat.Wire, part(flat.Set, sig, 0, m.d.Sigs[sig].Width, m.expr())))
		return
	case kind == flat.Comb && !m.chance(3):
		for _, x := range own {
			if m.d.Sigs[x].Words == 0 {
				body = append(body, part(flat.Set, x, 0, m.d.Sigs[x].Width, zero(m.d.Sigs[x].Width)))
			}
		}
	}
	m.d.Procs = append(m.d.Procs, proc(kind, append(body, m.stmts(kind, 2, own)...)...))
}

// TestP13_2AnyDesign compares everything with the model.
func TestP13_2AnyDesign(t *testing.T) {
	m := &maker{r: rand.New(rand.NewPCG(13, 2))}
	counts := map[api.Errno]int{}
	for range 10000 {
		d := m.design()
		info, pos, err := flat.Analyze(d)
		want, at, wantErr := model{d}.analyze()
		if err != wantErr || pos != at || show(info) != show(want) {
			t.Fatalf("P13.2, P13.3: %v, error %d at %v; want %v, error %d at %v\n%s", info, err, pos, want, wantErr, at, flat.Text(d))
		}
		counts[err]++
		for i, p := range d.Procs {
			reads, writes := model{d}.uses(model{d}.reads(i)), model{d}.uses(model{d}.writes(i, flat.Set, flat.Later))
			if show(flat.Reads(d, p)) != show(reads) || show(flat.Writes(d, p)) != show(writes) {
				t.Fatalf("P13.1: process %d\n%s", i, flat.Text(d))
			}
		}
	}
	for _, err := range []api.Errno{api.OK, api.ErrKind, api.ErrDrive, api.ErrRace, api.ErrLatch, api.ErrLoop} {
		if counts[err] < 150 {
			t.Errorf("error %d occurs only %d times", err, counts[err])
		}
	}
}

// TestP13_2InvalidDesigns: calls return for all values of their arguments.
func TestP13_2InvalidDesigns(t *testing.T) {
	odd := []int{math.MinInt, -1, 0, 1, 2, 3, 4, 5, 64, 127, 128, 129, 1 << 40, math.MaxInt}
	r := rand.New(rand.NewPCG(13, 3))
	some := func() int { return odd[r.IntN(len(odd))] }
	var expr func(depth int) typed.Expr
	expr = func(depth int) typed.Expr {
		e := typed.Expr{Kind: r.IntN(12), Op: some(), Width: some(), Sig: some(), Lo: some(), Val: vec(3, 5)}
		for range r.IntN(3) * min(depth, 1) {
			e.Args = append(e.Args, expr(depth-1))
		}
		return e
	}
	var stmts func(depth int) []flat.Stmt
	stmts = func(depth int) []flat.Stmt {
		var list []flat.Stmt
		for range r.IntN(3) * min(depth, 1) {
			s := flat.Stmt{Kind: r.IntN(6), Target: flat.Target{Sig: some(), Lo: some(), Width: some()}, Value: expr(2), Assert: some(), Body: stmts(depth - 1), Else: stmts(depth - 1)}
			for range r.IntN(3) {
				s.Target.Index = append(s.Target.Index, expr(1))
			}
			list = append(list, s)
		}
		return list
	}
	for range 5000 {
		d := flat.Design{Inputs: []int{some()}, Outputs: []int{some()}, Asserts: []string{"\x00"}, Starts: []flat.Start{{Sig: some()}}}
		for range r.IntN(5) {
			d.Sigs = append(d.Sigs, typed.Sig{Width: some(), Words: max(some(), 0) * r.IntN(2)})
		}
		for range r.IntN(4) {
			d.Procs = append(d.Procs, flat.Proc{Kind: r.IntN(5), Body: stmts(3)})
		}
		before := show(d)
		_, pos, err := flat.Analyze(d)
		if err == api.OK && pos != (api.Pos{}) {
			t.Errorf("P13.2: OK at %v", pos)
		}
		for _, p := range d.Procs {
			for _, x := range append(flat.Reads(d, p), flat.Writes(d, p)...) {
				if x.Sig < 0 || x.Sig >= len(d.Sigs) {
					t.Errorf("P13.1: signal %d", x.Sig)
				}
			}
		}
		if flat.Text(d) == "" || show(d) != before {
			t.Error("P13.4: no text, or an argument has changed")
		}
	}
}

// TestP13_2DeepDesigns: many nested statements.
func TestP13_2DeepDesigns(t *testing.T) {
	const depth = 5000
	inner := list(whole(flat.Set, y, ref(in)))
	e := ref(in)
	for range depth {
		inner = list(branch(ref(in), list(whole(flat.Set, y, ref(in))), inner))
		e = typed.Expr{Kind: typed.Un, Op: bv.Not, Width: width, Args: []typed.Expr{e}}
	}
	d := driven(proc(flat.Comb, inner...), proc(flat.Clocked, assert(e)))
	mustAccept(t, "P13.2", "a deep design", d)
	if flat.Text(d) == "" {
		t.Error("P13.4: no text")
	}
}
