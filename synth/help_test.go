package synth_test

import (
	"fmt"
	"slices"
	"strings"
	"testing"

	"sluicegate/api"
	"sluicegate/bv"
	"sluicegate/evsim"
	"sluicegate/exec"
	"sluicegate/flat"
	"sluicegate/net"
	"sluicegate/sample"
	"sluicegate/synth"
	"sluicegate/typed"
)

func vec(width int, n uint64) bv.Vec {
	v, _ := bv.New(width, n)
	return v
}

// show writes something without a difference between nil and empty lists.
func show(x any) string { return fmt.Sprintf("%+v", x) }

// showResult writes a result with what its pointer points to.
func showResult(r synth.Result) string {
	if r.Net == nil {
		return show(r)
	}
	return show(*r.Net) + show(r.Sigs) + show(r.Regs) + show(r.Mems)
}

// design returns that of a text's module top.
func design(t *testing.T, text string) flat.Design {
	t.Helper()
	d, ok := sample.Elaborated(text)
	if !ok {
		t.Fatalf("no design: %s", text)
	}
	return d
}

// mustSynth returns the netlist of a design.
func mustSynth(t *testing.T, d flat.Design) synth.Result {
	t.Helper()
	r, pos, err := synth.Synth(d)
	if err != api.OK || pos != (api.Pos{}) || r.Net == nil {
		t.Fatalf("P18.1: error %d at %v\n%s", err, pos, flat.Text(d))
	}
	if err := r.Net.Check(); err != api.OK {
		t.Fatalf("P18.1: the netlist has the error %d\n%+v\n%s", err, *r.Net, flat.Text(d))
	}
	return r
}

// mustReject fails unless a design has an error.
func mustReject(t *testing.T, what string, d flat.Design, want api.Errno, at api.Pos) {
	t.Helper()
	r, pos, err := synth.Synth(d)
	if err != want || pos != at || showResult(r) != show(synth.Result{}) {
		t.Errorf("P18.1: %s: error %d at %v, not %d at %v; %s", what, err, pos, want, at, showResult(r))
	}
}

// valuesOf returns the values that a state of a design gives to a netlist.
func valuesOf(d flat.Design, r synth.Result, s *exec.State) net.Values {
	var v net.Values
	for _, sig := range d.Inputs {
		v.Ins = append(v.Ins, s.Sig(sig))
	}
	for _, sig := range r.Regs {
		v.Regs = append(v.Regs, s.Sig(sig))
	}
	for _, sig := range r.Mems {
		v.Words = append(v.Words, words(d, s, sig))
	}
	return v
}

func words(d flat.Design, s *exec.State, sig int) []bv.Vec {
	var list []bv.Vec
	for at := range d.Sigs[sig].Words {
		list = append(list, s.Word(sig, at))
	}
	return list
}

// written returns the words of a memory after its write ports were performed,
// given the values of the nodes.
func written(m net.Mem, words, nodes []bv.Vec) []bv.Vec {
	words = slices.Clone(words)
	for _, p := range m.Ports {
		at := nodes[p.At].Num(m.Words)
		if nodes[p.On].Num(1) == 1 && at < m.Words {
			words[at] = nodes[p.Val]
		}
	}
	return words
}

// performed counts what happened in the comparisons of a test.
type performed struct{ checks, fails, words, registers int }

// mustCompute fails unless the netlist computes what the simulator does in a
// cycle that begins in a state with these inputs.
func mustCompute(t *testing.T, d flat.Design, r synth.Result, start *exec.State, ins []bv.Vec) performed {
	t.Helper()
	s, _, err := evsim.New(d, start)
	if err != api.OK {
		t.Fatalf("P16.1: error %d\n%s", err, flat.Text(d))
	}
	for i, v := range ins {
		s.Set(d.Inputs[i], v)
	}
	s.Settle()
	before := s.State()
	v := valuesOf(d, r, before)
	nodes := r.Net.Eval(v)
	for sig, i := range r.Sigs {
		if i >= 0 && nodes[i] != before.Sig(sig) {
			t.Fatalf("P18.2: signal %s is %s, not %s\n%s", d.Sigs[sig].Name, nodes[i].Text(), before.Sig(sig).Text(), flat.Text(d))
		}
	}
	checks, _ := s.Step()
	after := s.State()
	var p performed
	for i, x := range r.Net.Regs {
		want := after.Sig(r.Regs[i])
		if nodes[x.Next] != want {
			t.Fatalf("P18.2: register %s receives %s, not %s\n%s", x.Name, nodes[x.Next].Text(), want.Text(), flat.Text(d))
		}
		if want != v.Regs[i] {
			p.registers++
		}
	}
	for i, m := range r.Net.Mems {
		want := words(d, after, r.Mems[i])
		if got := written(m, v.Words[i], nodes); show(got) != show(want) {
			t.Fatalf("P18.2: memory %s receives %v, not %v\n%s", m.Name, got, want, flat.Text(d))
		}
		if show(want) != show(v.Words[i]) {
			p.words++
		}
	}
	p.checks, p.fails = mustAssert(t, d, r, nodes, checks)
	return p
}

// mustAssert fails unless the netlist has the assertions that the simulator
// checked. It returns how many there were, and how many of them fail.
func mustAssert(t *testing.T, d flat.Design, r synth.Result, nodes []bv.Vec, checks []exec.Check) (count, fails int) {
	t.Helper()
	var got, want []string
	for _, a := range r.Net.Asserts {
		if nodes[a.On].Num(1) == 1 {
			got = append(got, fmt.Sprintf("%s:%t", a.Name, nodes[a.Is].Num(1) == 1))
		}
	}
	for _, c := range checks {
		want = append(want, fmt.Sprintf("%s:%t", d.Asserts[c.Assert], c.Holds))
		if !c.Holds {
			fails++
		}
	}
	if show(got) != show(want) {
		t.Fatalf("P18.2: assertions %v, not %v\n%s", got, want, flat.Text(d))
	}
	return len(checks), fails
}

// sizeOf returns the number of Exprs and statements of a design.
func sizeOf(d flat.Design) int {
	count := 0
	for _, p := range d.Procs {
		count += sizeOfStmts(p.Body)
	}
	return count
}

func sizeOfStmts(list []flat.Stmt) int {
	count := len(list)
	for _, s := range list {
		count += typed.Nodes(s.Value) + sizeOfStmts(s.Body) + sizeOfStmts(s.Else)
		for _, e := range s.Target.Index {
			count += typed.Nodes(e)
		}
	}
	return count
}

// The functions below make designs that no source has.

func ref(sig, width int) typed.Expr { return typed.Expr{Kind: typed.Ref, Width: width, Sig: sig} }

// part returns a statement that assigns to bits of a signal.
func part(kind, sig, lo int, e typed.Expr) flat.Stmt {
	return flat.Stmt{Kind: kind, Target: flat.Target{Sig: sig, Lo: lo, Width: e.Width}, Value: e}
}

// indexed returns a statement that assigns to a bit of a signal or a word.
func indexed(kind, sig int, index, e typed.Expr) flat.Stmt {
	return flat.Stmt{Kind: kind, Target: flat.Target{Sig: sig, Index: []typed.Expr{index}}, Value: e}
}

func branch(e typed.Expr, body, other []flat.Stmt) flat.Stmt {
	return flat.Stmt{Kind: flat.If, Value: e, Body: body, Else: other}
}

func assert(number int, e typed.Expr) flat.Stmt {
	return flat.Stmt{Kind: flat.Assert, Value: e, Assert: number}
}

func proc(kind int, body ...flat.Stmt) flat.Proc { return flat.Proc{Kind: kind, Body: body} }

// sigs returns signals of a width.
func sigs(count, width int) []typed.Sig {
	var list []typed.Sig
	for i := range count {
		list = append(list, typed.Sig{Name: fmt.Sprint("s", i), Width: width})
	}
	return list
}

// placed returns a design with positions.
func placed(d flat.Design) flat.Design {
	d.Places, d.Procs = nil, slices.Clone(d.Procs)
	for i := range d.Sigs {
		d.Places = append(d.Places, api.Pos{File: 1, Line: 1, Col: i + 1})
	}
	for i := range d.Procs {
		d.Procs[i].Pos = api.Pos{File: 1, Line: 2, Col: i + 1}
	}
	return d
}

// names joins the names of something.
func names[T any](list []T, name func(x T) string) string {
	var words []string
	for _, x := range list {
		words = append(words, name(x))
	}
	return strings.Join(words, " ")
}
