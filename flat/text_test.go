package flat_test

import (
	"slices"
	"strings"
	"testing"

	"sluicegate/api"
	"sluicegate/bv"
	"sluicegate/flat"
	"sluicegate/typed"
)

// full returns a design in which no field is zero and no list empty.
func full() flat.Design {
	leaf := func() typed.Expr {
		return typed.Expr{Kind: 4, Op: 5, Width: 6, Sig: 7, Lo: 8, Signed: true, Val: vec(4, 9), Args: []typed.Expr{{Kind: 1, Val: vec(2, 1)}, {Kind: 3}}}
	}
	inner := func() flat.Stmt {
		return flat.Stmt{Kind: 2, Pos: procPos(3), Target: flat.Target{Sig: 1, Lo: 2, Width: 3, Index: []typed.Expr{leaf(), zero(2)}}, Value: leaf(), Assert: 4}
	}
	outer := flat.Stmt{Kind: 3, Target: flat.Target{Sig: 2}, Value: ref(y), Body: list(inner(), flat.Stmt{Kind: 1}), Else: list(flat.Stmt{Kind: 4}), Assert: 1}
	return flat.Design{
		Sigs:   []typed.Sig{{Name: "a", Width: 3, Signed: true, Words: 2}, {Name: "b.c[1]", Width: 1}},
		Places: []api.Pos{sigPos(0), sigPos(1)}, Inputs: []int{1, 0}, Outputs: []int{0},
		Procs:   []flat.Proc{{Kind: 2, Pos: procPos(0), Body: list(outer, inner())}, {Kind: 1}},
		Asserts: []string{"p#0", "q"}, Starts: []flat.Start{{Sig: 1, Val: vec(3, 5)}, {Sig: 2}},
	}
}

// stmt returns a statement of a design as full returns it.
func stmt(d *flat.Design, path ...int) *flat.Stmt {
	s := &d.Procs[0].Body[path[0]]
	for _, i := range path[1:] {
		s = &s.Body[i]
	}
	return s
}

// changes returns functions that each make a design different.
func changes() []func(d *flat.Design) {
	list := []func(d *flat.Design){
		func(d *flat.Design) {},
		func(d *flat.Design) { d.Sigs[0].Name = "A" }, func(d *flat.Design) { d.Sigs[0].Name = "" }, func(d *flat.Design) { d.Sigs[0].Name = "a\"" },
		func(d *flat.Design) { d.Sigs[0].Name = "a\" 3 true 2\nsignal \"b" }, func(d *flat.Design) { d.Sigs[0].Name = "a\n" },
		func(d *flat.Design) { d.Sigs[0].Name = "\xff" }, func(d *flat.Design) { d.Sigs[0].Name = "\ufffd" }, func(d *flat.Design) { d.Sigs[0].Name = `\xff` },
		func(d *flat.Design) { d.Sigs[0].Width = -3 }, func(d *flat.Design) { d.Sigs[0].Signed = false }, func(d *flat.Design) { d.Sigs[0].Words = 0 },
		func(d *flat.Design) { d.Sigs = d.Sigs[:1] }, func(d *flat.Design) { d.Sigs = nil }, func(d *flat.Design) { slices.Reverse(d.Sigs) },
		func(d *flat.Design) { d.Inputs[0] = 3 }, func(d *flat.Design) { d.Inputs = d.Inputs[:1] }, func(d *flat.Design) { d.Inputs = nil },
		func(d *flat.Design) { d.Inputs, d.Outputs = d.Outputs, d.Inputs }, func(d *flat.Design) { d.Outputs[0] = -1 },
		func(d *flat.Design) { d.Outputs = append(d.Outputs, 0) }, func(d *flat.Design) { d.Asserts[0] = "p" }, func(d *flat.Design) { d.Asserts = d.Asserts[:1] },
		func(d *flat.Design) { d.Asserts = []string{"p#0 q"} }, func(d *flat.Design) { d.Asserts = []string{"p#0\" \"q"} }, func(d *flat.Design) { slices.Reverse(d.Asserts) },
		func(d *flat.Design) { d.Starts[0].Sig = 2 }, func(d *flat.Design) { d.Starts[0].Val = vec(3, 4) }, func(d *flat.Design) { d.Starts[0].Val = vec(4, 5) },
		func(d *flat.Design) { d.Starts[0].Val = bv.Vec{} }, func(d *flat.Design) { d.Starts = d.Starts[:1] }, func(d *flat.Design) { slices.Reverse(d.Starts) },
		func(d *flat.Design) { d.Procs[0].Kind = 3 }, func(d *flat.Design) { d.Procs = d.Procs[:1] }, func(d *flat.Design) { slices.Reverse(d.Procs) },
		func(d *flat.Design) { d.Procs[1].Body = []flat.Stmt{{}} }, func(d *flat.Design) { d.Procs[0].Body = d.Procs[0].Body[:1] },
		func(d *flat.Design) { d.Procs = append(d.Procs, flat.Proc{}) }, func(d *flat.Design) { slices.Reverse(d.Procs[0].Body) },
		func(d *flat.Design) { s := stmt(d, 0); s.Body, s.Else = s.Else, s.Body },
		func(d *flat.Design) { s := stmt(d, 0); s.Body, s.Else = nil, append(s.Body, s.Else...) },
		func(d *flat.Design) { s := stmt(d, 0); s.Body, s.Else = append(s.Body, s.Else...), nil },
		func(d *flat.Design) { s := stmt(d, 0); s.Body, s.Else = nil, nil },
		func(d *flat.Design) { s := stmt(d, 0); s.Body[0].Body, s.Body = s.Body[1:], s.Body[:1] },
		func(d *flat.Design) { s := stmt(d, 0); s.Else[0].Else = []flat.Stmt{{}} },
		func(d *flat.Design) {
			s := stmt(d, 0)
			d.Procs[0].Body = append(d.Procs[0].Body, s.Else...)
			s.Else = nil
		},
	}
	list = append(list, changesOfNesting()...)
	for _, path := range [][]int{{0}, {1}, {0, 0}, {0, 1}} {
		list = append(list,
			func(d *flat.Design) { stmt(d, path...).Kind = 7 }, func(d *flat.Design) { stmt(d, path...).Assert = -7 },
			func(d *flat.Design) { stmt(d, path...).Target.Sig = 7 }, func(d *flat.Design) { stmt(d, path...).Target.Lo = 7 },
			func(d *flat.Design) { stmt(d, path...).Target.Width = 7 }, func(d *flat.Design) { stmt(d, path...).Value = typed.Expr{Kind: 9} },
			func(d *flat.Design) { s := stmt(d, path...); s.Target.Index = append(s.Target.Index, s.Value) },
		)
	}
	return append(list, changesOfExprs()...)
}

// changesOfNesting returns functions that only change which statements are in
// which other ones.
func changesOfNesting() []func(d *flat.Design) {
	a, b, c := flat.Stmt{Kind: 1}, flat.Stmt{Kind: 2}, flat.Stmt{Kind: 4}
	with := func(s flat.Stmt, body, other []flat.Stmt) flat.Stmt {
		s.Body, s.Else = body, other
		return s
	}
	var changes []func(d *flat.Design)
	for _, body := range [][]flat.Stmt{
		{a, b, c}, {a, with(b, list(c), nil)}, {a, with(b, nil, list(c))}, {with(a, list(b), nil), c}, {with(a, nil, list(b)), c}, {with(a, list(b), list(c))},
		{with(a, list(b, c), nil)}, {with(a, nil, list(b, c))}, {with(a, list(with(b, list(c), nil)), nil)}, {with(a, list(with(b, nil, list(c))), nil)},
		{with(a, nil, list(with(b, list(c), nil)))}, {with(a, nil, list(with(b, nil, list(c))))},
	} {
		changes = append(changes, func(d *flat.Design) { d.Procs[0].Body = body })
	}
	return append(changes,
		func(d *flat.Design) { d.Procs = []flat.Proc{{Kind: 1, Body: list(a)}, {Kind: 1, Body: list(b)}} },
		func(d *flat.Design) { d.Procs = []flat.Proc{{Kind: 1, Body: list(a, b)}, {Kind: 1}} },
		func(d *flat.Design) { d.Procs = []flat.Proc{{Kind: 1}, {Kind: 1, Body: list(a, b)}} },
	)
}

func changesOfExprs() []func(d *flat.Design) {
	var list []func(d *flat.Design)
	for _, e := range []func(d *flat.Design) *typed.Expr{
		func(d *flat.Design) *typed.Expr { return &stmt(d, 1).Value },
		func(d *flat.Design) *typed.Expr { return &stmt(d, 0, 0).Target.Index[0] },
	} {
		list = append(list,
			func(d *flat.Design) { e(d).Kind = 5 }, func(d *flat.Design) { e(d).Op = 0 }, func(d *flat.Design) { e(d).Width = 60 }, func(d *flat.Design) { e(d).Sig = 0 },
			func(d *flat.Design) { e(d).Lo = -8 }, func(d *flat.Design) { e(d).Signed = false }, func(d *flat.Design) { e(d).Val = vec(4, 1) },
			func(d *flat.Design) { e(d).Val = vec(5, 9) }, func(d *flat.Design) { e(d).Val = bv.Vec{} }, func(d *flat.Design) { e(d).Args = nil },
			func(d *flat.Design) { e(d).Args = e(d).Args[:1] }, func(d *flat.Design) { slices.Reverse(e(d).Args) }, func(d *flat.Design) { e(d).Args[1].Kind = 4 },
			func(d *flat.Design) { e(d).Args[0].Val = vec(2, 2) }, func(d *flat.Design) { x := e(d); x.Args[0].Args, x.Args = x.Args[1:], x.Args[:1] },
			func(d *flat.Design) { e(d).Kind, e(d).Op = 45, 6 }, func(d *flat.Design) { e(d).Kind, e(d).Op = 4, 56 },
			func(d *flat.Design) { e(d).Op, e(d).Sig = e(d).Sig, e(d).Op }, func(d *flat.Design) { e(d).Sig, e(d).Lo = e(d).Lo, e(d).Sig },
		)
	}
	return list
}

func TestP13_4DifferentDesignsHaveDifferentTexts(t *testing.T) {
	seen := map[string]int{}
	for i, change := range changes() {
		d := full()
		change(&d)
		text := flat.Text(d)
		if other, found := seen[text]; found {
			t.Errorf("P13.4: changes %d and %d have the same text:\n%s", other, i, text)
		}
		seen[text] = i
		if !strings.HasSuffix(text, "\n") {
			t.Errorf("P13.4: change %d: no lines: %q", i, text)
		}
	}
}

// TestP13_4PositionsAreNotWritten: neither are the differences of nil and empty
// lists.
func TestP13_4PositionsAreNotWritten(t *testing.T) {
	want := flat.Text(full())
	for i, change := range []func(d *flat.Design){
		func(d *flat.Design) { d.Places[0] = sigPos(9) }, func(d *flat.Design) { d.Places = nil }, func(d *flat.Design) { d.Procs[0].Pos = api.Pos{} },
		func(d *flat.Design) { stmt(d, 0).Pos = procPos(9) }, func(d *flat.Design) { stmt(d, 0, 0).Pos = api.Pos{} },
		func(d *flat.Design) { d.Procs[1].Body = []flat.Stmt{} }, func(d *flat.Design) { stmt(d, 1).Body = []flat.Stmt{} },
		func(d *flat.Design) { stmt(d, 1).Value.Args[0].Args = []typed.Expr{} }, func(d *flat.Design) { stmt(d, 0).Target.Index = []typed.Expr{} },
	} {
		d := full()
		change(&d)
		if text := flat.Text(d); text != want {
			t.Errorf("P13.4: change %d:\n%s\n%s", i, text, want)
		}
	}
	if flat.Text(flat.Design{}) != flat.Text(flat.Design{Sigs: []typed.Sig{}, Procs: []flat.Proc{}, Starts: []flat.Start{}}) {
		t.Error("P13.4: empty designs")
	}
}
