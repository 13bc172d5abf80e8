package synth_test

import (
	"fmt"
	"math/rand/v2"
	"testing"

	"sluicegate/api"
	"sluicegate/bv"
	"sluicegate/flat"
	"sluicegate/sample"
	"sluicegate/synth"
	"sluicegate/typed"
)

// TestP18_1Errors: those of flat.Analyze, one of each kind.
func TestP18_1Errors(t *testing.T) {
	one := typed.Num(vec(1, 1))
	for _, x := range []struct {
		what  string
		procs []flat.Proc
		err   api.Errno
		at    api.Pos
	}{
		{"an assertion in a Wire", []flat.Proc{proc(flat.Clocked), proc(flat.Wire, assert(0, one))}, api.ErrKind, api.Pos{File: 1, Line: 2, Col: 2}},
		{"an input is set", []flat.Proc{proc(flat.Wire, part(flat.Set, 0, 0, one))}, api.ErrDrive, api.Pos{File: 1, Line: 2, Col: 1}},
		{"a race", []flat.Proc{proc(flat.Clocked, part(flat.Set, 1, 0, one), part(flat.Later, 1, 0, one))}, api.ErrRace, api.Pos{File: 1, Line: 2, Col: 1}},
		{"no driver", nil, api.ErrDrive, api.Pos{File: 1, Line: 1, Col: 2}},
		{"a latch", []flat.Proc{proc(flat.Comb, branch(ref(0, 1), []flat.Stmt{part(flat.Set, 1, 0, one)}, nil))}, api.ErrLatch, api.Pos{File: 1, Line: 2, Col: 1}},
		{"a loop", []flat.Proc{proc(flat.Wire, part(flat.Set, 1, 0, ref(1, 1)))}, api.ErrLoop, api.Pos{File: 1, Line: 2, Col: 1}},
	} {
		d := placed(flat.Design{Sigs: sigs(2, 1), Inputs: []int{0}, Asserts: []string{"p"}, Procs: x.procs})
		mustReject(t, x.what, d, x.err, x.at)
	}
	d := placed(flat.Design{Sigs: sigs(2, 1), Inputs: []int{0}, Procs: []flat.Proc{proc(flat.Wire, part(flat.Set, 1, 0, one))}})
	mustSynth(t, d)
	d.Starts = []flat.Start{{Sig: 1, Val: vec(1, 0)}}
	mustReject(t, "an initial value of a net", d, api.ErrKind, api.Pos{File: 1, Line: 1, Col: 2})
	d.Starts = []flat.Start{{Sig: 2, Val: vec(1, 0)}}
	mustReject(t, "an initial value of nothing", d, api.ErrKind, api.Pos{})
}

// wires returns a design with so many inputs, and one node for each of so many
// nets.
func wires(inputs, nets int) flat.Design {
	d := flat.Design{Sigs: sigs(inputs+nets, 1)}
	for i := range inputs {
		d.Inputs = append(d.Inputs, i)
	}
	for i := range nets {
		e := typed.Two(bv.And, ref(i/inputs, 1), ref(i%inputs, 1))
		d.Procs = append(d.Procs, proc(flat.Wire, part(flat.Set, inputs+i, 0, e)))
	}
	return d
}

// TestP18_1Limit: the least number of nodes that these designs can have is known.
func TestP18_1Limit(t *testing.T) {
	d := wires(api.MaxNodes, 0)
	if r := mustSynth(t, d); len(r.Net.Nodes) != api.MaxNodes || len(r.Net.Outs) != api.MaxNodes {
		t.Errorf("P18.1: %d nodes", len(r.Net.Nodes))
	}
	mustReject(t, "too many inputs", placed(wires(api.MaxNodes+1, 0)), api.ErrLimit, api.Pos{})
	d = wires(200, api.MaxNodes-200)
	if r := mustSynth(t, d); len(r.Net.Nodes) != api.MaxNodes {
		t.Errorf("P18.1: %d nodes", len(r.Net.Nodes))
	}
	mustReject(t, "too many operations", placed(wires(200, api.MaxNodes-199)), api.ErrLimit, api.Pos{})
	d = placed(wires(200, api.MaxNodes-199))
	d.Procs = append(d.Procs, proc(flat.Wire, part(flat.Set, 0, 0, ref(0, 1))))
	mustReject(t, "an error of Analyze, and too many nodes", d, api.ErrDrive, api.Pos{})
}

// mustBeSmall fails unless a design is as great as those may be that are always
// accepted, and is accepted.
func mustBeSmall(t *testing.T, what string, d flat.Design) {
	t.Helper()
	if size := sizeOf(d); size > 3000 || size < 2900 {
		t.Fatalf("%s: %d Exprs and statements", what, size)
	}
	r, pos, err := synth.Synth(d)
	if err != api.OK || r.Net.Check() != api.OK {
		t.Fatalf("P18.1: %s: error %d at %v", what, err, pos)
	}
	t.Logf("%s: %d nodes", what, len(r.Net.Nodes))
	pick := sample.Choice(rand.New(rand.NewPCG(18, 2)).IntN)
	for range 3 {
		mustCompute(t, d, r, pick.State(d), pick.Ins(d))
	}
}

// nested returns statements in so many Ifs, each one in the branch of the last
// one that isElse says.
func nested(depth, width int, isElse func(i int) bool, inner []flat.Stmt) []flat.Stmt {
	for i := range depth {
		c := typed.Part(ref(0, 128), i%(128-width), width)
		if isElse(i) {
			inner = []flat.Stmt{branch(c, nil, inner)}
		} else {
			inner = []flat.Stmt{branch(c, inner, nil)}
		}
	}
	return inner
}

// TestP18_1SmallDesigns: designs in which assignments are costly, because of how
// deeply they are nested, or because of what they assign to.
func TestP18_1SmallDesigns(t *testing.T) {
	x := ref(0, 128)
	for _, y := range []struct {
		what   string
		assign func(sig int) flat.Stmt
		count  int
		depth  int
		width  int
	}{
		{"whole registers", func(sig int) flat.Stmt { return part(flat.Later, sig, 0, ref(0, 128)) }, 700, 500, 1},
		{"whole registers, wide conditions", func(sig int) flat.Stmt { return part(flat.Later, sig, 0, ref(0, 128)) }, 300, 780, 7},
		{"parts of registers", func(sig int) flat.Stmt { return part(flat.Later, sig, 5, typed.Num(vec(3, uint64(sig)))) }, 700, 500, 2},
		{"parts of temps", func(sig int) flat.Stmt { return part(flat.Set, sig, 5, typed.Num(vec(3, uint64(sig)))) }, 1400, 60, 2},
		{"bits", func(sig int) flat.Stmt { return indexed(flat.Later, sig, x, typed.Num(vec(1, uint64(sig)))) }, 980, 10, 3},
		{"bits of temps", func(sig int) flat.Stmt {
			return indexed(flat.Set, sig, typed.Num(vec(9, uint64(sig%128))), typed.Num(vec(1, 1)))
		}, 900, 80, 3},
		{"assertions", func(sig int) flat.Stmt { return assert(0, ref(0, 128)) }, 1000, 330, 3},
	} {
		for _, isElse := range []func(i int) bool{
			func(int) bool { return false }, func(int) bool { return true }, func(i int) bool { return i%2 == 0 },
		} {
			d := flat.Design{Sigs: sigs(1+y.count, 128), Inputs: []int{0}, Asserts: []string{"p"}}
			var inner []flat.Stmt
			written := flat.Proc{Kind: flat.Clocked}
			for sig := range y.count {
				inner = append(inner, y.assign(sig+1))
			}
			written.Body = nested(y.depth, y.width, isElse, inner)
			d.Procs = []flat.Proc{written}
			if inner[0].Kind == flat.Assert {
				d.Sigs = d.Sigs[:1]
			}
			mustBeSmall(t, y.what, d)
		}
	}
}

// TestP18_1SmallCombs: the same for nets.
func TestP18_1SmallCombs(t *testing.T) {
	const count = 270
	var first, inner []flat.Stmt
	for i := range count {
		first = append(first, part(flat.Set, i+1, 0, typed.Num(vec(128, uint64(i)))))
		inner = append(inner, part(flat.Set, i+1, i%128, typed.Num(vec(1, 1))), indexed(flat.Set, i+1, typed.Part(ref(0, 128), 0, 8), typed.Part(ref(i+1, 128), 0, 1)))
	}
	d := flat.Design{Sigs: sigs(count+1, 128), Inputs: []int{0}, Procs: []flat.Proc{proc(flat.Comb, append(first, nested(180, 1, func(int) bool { return true }, inner)...)...)}}
	mustBeSmall(t, "nets", d)

	d = flat.Design{Sigs: append(sigs(12, 128), sigs(60, 1)...), Inputs: []int{0}}
	for i := range 11 * 128 {
		d.Procs = append(d.Procs, proc(flat.Wire, part(flat.Set, 1+i/128, i%128, typed.Num(vec(1, uint64(i))))))
	}
	for i := range 60 {
		d.Procs = append(d.Procs, proc(flat.Wire, part(flat.Set, 12+i, 0, typed.Part(ref(1+i%11, 128), i, 1))))
	}
	mustBeSmall(t, "bits of wires", d)
}

// TestP18_1SmallCase: a case with many arms, the last of which assigns to many
// registers.
func TestP18_1SmallCase(t *testing.T) {
	const arms, count = 430, 480
	d := flat.Design{Sigs: sigs(count+1, 16), Inputs: []int{0}}
	var list []flat.Stmt
	for i := range count {
		list = append(list, part(flat.Later, i+1, 0, ref(0, 16)))
	}
	for i := range arms {
		c := typed.Two(bv.Eq, ref(0, 16), typed.Num(vec(16, uint64(i))))
		list = []flat.Stmt{branch(c, []flat.Stmt{}, list)}
	}
	list[0].Body = []flat.Stmt{part(flat.Later, 1, 0, typed.Num(vec(16, 7)))}
	for i := range 140 {
		list = append(list, part(flat.Later, i+1, 3, typed.Num(vec(2, 3))))
	}
	d.Procs = []flat.Proc{proc(flat.Clocked, list...)}
	mustBeSmall(t, "a case", d)
}

// TestP18_1AnyTree: for all designs that are accepted there is a netlist without
// an error, or only an error.
func TestP18_1AnyTree(t *testing.T) {
	pick := sample.Choice(rand.New(rand.NewPCG(18, 3)).IntN)
	made, failed := 0, 0
	for range 10000 {
		d := pick.Design()
		for range 1 + pick(3) {
			pick.Disturb(d)
		}
		if pick(20) == 0 {
			d.Inputs = append(d.Inputs, pick(20)-5)
		}
		before := show(d)
		r, pos, err := synth.Synth(d)
		_, wantPos, want := flat.Analyze(d)
		switch {
		case want != api.OK && (err != want || pos != wantPos):
			t.Fatalf("P18.1: error %d at %v, not %d at %v", err, pos, want, wantPos)
		case err != api.OK && showResult(r) != show(synth.Result{}):
			t.Fatalf("P18.1: error %d, %s", err, showResult(r))
		case err == api.OK && r.Net.Check() != api.OK:
			t.Fatalf("P18.1: the netlist has the error %d\n%s", r.Net.Check(), flat.Text(d))
		case err == api.OK:
			made++
		case want == api.OK:
			failed++
		}
		if show(d) != before {
			t.Fatal("P18.1: an argument has changed")
		}
	}
	if made < 1000 || failed < 1000 {
		t.Errorf("P18.1: %d netlists, %d errors", made, failed)
	}
}

// TestP18_1InvalidDesigns: designs that Analyze accepts, but that have no meaning,
// have no netlist.
func TestP18_1InvalidDesigns(t *testing.T) {
	a, all := ref(0, 4), part(flat.Set, 1, 0, ref(0, 4))
	narrow, wide := typed.Part(a, 0, 3), typed.Wide(a, 5, false)
	word := func(sig int) typed.Expr {
		return typed.Expr{Kind: typed.Word, Width: 4, Sig: sig, Args: []typed.Expr{a}}
	}
	of := func(e typed.Expr, kind int) typed.Expr {
		e.Kind = kind
		return e
	}
	later := func(t flat.Target, e typed.Expr) flat.Stmt {
		return flat.Stmt{Kind: flat.Later, Target: t, Value: e}
	}
	nothing := branch(a, nil, nil)
	for _, x := range []struct {
		what string
		net  flat.Stmt // of a Comb, after the net was set
		reg  flat.Stmt // of a Clocked
		err  api.Errno
	}{
		{"a narrow value", part(flat.Set, 1, 0, typed.Two(bv.Add, a, narrow)), nothing, api.ErrWidth},
		{"a value for a net", flat.Stmt{Kind: flat.Set, Target: all.Target, Value: narrow}, nothing, api.ErrWidth},
		{"a value for a part of a net", flat.Stmt{Kind: flat.Set, Target: flat.Target{Sig: 1, Width: 2}, Value: narrow}, nothing, api.ErrWidth},
		{"a value for a register", nothing, later(flat.Target{Sig: 2, Width: 4}, wide), api.ErrWidth},
		{"a value for a part", nothing, later(flat.Target{Sig: 2, Width: 2}, narrow), api.ErrWidth},
		{"a value for a bit", nothing, indexed(flat.Later, 2, a, narrow), api.ErrWidth},
		{"a value for a word", nothing, indexed(flat.Later, 3, a, narrow), api.ErrWidth},
		{"a part beyond a register", nothing, later(flat.Target{Sig: 2, Lo: 2, Width: 3}, narrow), api.ErrRange},
		{"all bits beyond a register", nothing, later(flat.Target{Sig: 2, Lo: 2, Width: 4}, a), api.ErrRange},
		{"a part before a register", nothing, later(flat.Target{Sig: 2, Lo: -1, Width: 3}, narrow), api.ErrWidth},
		{"no signal is set", part(flat.Set, 9, 0, a), nothing, api.ErrRange},
		{"no signal receives", nothing, part(flat.Later, -1, 0, a), api.ErrRange},
		{"no signal receives in an If", nothing, branch(a, []flat.Stmt{part(flat.Later, 9, 0, a)}, []flat.Stmt{part(flat.Later, 9, 0, a)}), api.ErrRange},
		{"a memory as a whole", nothing, part(flat.Later, 3, 0, a), api.ErrRange},
		{"no signal is read", part(flat.Set, 1, 0, ref(9, 4)), nothing, api.ErrRange},
		{"a memory is read", part(flat.Set, 1, 0, ref(3, 4)), nothing, api.ErrWidth},
		{"a memory is a condition", branch(ref(3, 4), nil, nil), nothing, api.ErrRange},
		{"a memory is asserted", nothing, assert(0, ref(3, 4)), api.ErrRange},
		{"a word of a signal", part(flat.Set, 1, 0, word(0)), nothing, api.ErrRange},
		{"a word of nothing", part(flat.Set, 1, 0, word(-1)), nothing, api.ErrRange},
		{"no kind", part(flat.Set, 1, 0, of(a, 0)), nothing, api.ErrInval},
		{"a negative kind", part(flat.Set, 1, 0, of(a, -1)), nothing, api.ErrInval},
		{"another kind", part(flat.Set, 1, 0, of(a, typed.Ext+1)), nothing, api.ErrInval},
		{"no Args", part(flat.Set, 1, 0, of(a, typed.Un)), nothing, api.ErrInval},
	} {
		d := flat.Design{Sigs: sigs(4, 4), Inputs: []int{0}, Asserts: []string{"p"}, Procs: []flat.Proc{
			proc(flat.Comb, all, x.net), proc(flat.Clocked, part(flat.Later, 2, 0, a), indexed(flat.Later, 3, a, a), x.reg),
		}}
		d.Sigs[3].Words = 2
		d = placed(d)
		if _, pos, err := flat.Analyze(d); err != api.OK {
			t.Errorf("%s: flat.Analyze returns %d at %v", x.what, err, pos)
		}
		mustReject(t, x.what, d, x.err, api.Pos{})
	}
	all.Value = narrow
	first := flat.Design{Sigs: sigs(2, 4), Inputs: []int{0}, Procs: []flat.Proc{proc(flat.Wire, all)}}
	mustReject(t, "the first value for a net", first, api.ErrWidth, api.Pos{})
	all.Value = a
	for _, list := range [][]int{{2, 0}, {0, 2}, {-1, 0}} {
		d := flat.Design{Sigs: sigs(2, 4), Inputs: list, Procs: []flat.Proc{proc(flat.Wire, all)}}
		mustReject(t, "no such input", d, api.ErrRange, api.Pos{})
	}
	for _, width := range []int{0, -1, 129} {
		d := flat.Design{Sigs: sigs(1, width), Inputs: []int{0}}
		mustReject(t, "a width", d, api.ErrWidth, api.Pos{})
	}
	d := flat.Design{Procs: []flat.Proc{proc(flat.Clocked, assert(-1, typed.Num(vec(1, 1))), assert(0, typed.Num(vec(1, 1))))}}
	if r := mustSynth(t, d); len(r.Net.Asserts) != 2 || r.Net.Asserts[0].Name+r.Net.Asserts[1].Name != "" {
		t.Errorf("P18.1: %+v", r.Net.Asserts)
	}
}

// TestP18_1Deep: many nested statements and expressions.
func TestP18_1Deep(t *testing.T) {
	const depth = 3000
	e := ref(0, 4)
	for i := range depth {
		e = typed.Expr{Kind: typed.Bin, Op: bv.Add, Width: 4, Args: []typed.Expr{e, typed.Num(vec(4, uint64(i)))}}
	}
	list := []flat.Stmt{part(flat.Later, 1, 0, e)}
	for i := range depth {
		list = []flat.Stmt{branch(typed.Part(ref(0, 4), i%4, 1), list, nil)}
	}
	d := flat.Design{Sigs: sigs(2, 4), Inputs: []int{0}, Procs: []flat.Proc{proc(flat.Clocked, list...)}}
	r := mustSynth(t, d)
	for i := range uint64(16) {
		mustCompute(t, d, r, nil, []bv.Vec{vec(4, i)})
	}
	mustReject(t, fmt.Sprint(depth, " other nodes"), flat.Design{Sigs: sigs(1, 4), Procs: []flat.Proc{proc(flat.Wire, part(flat.Set, 0, 0, chain(api.MaxNodes+1)))}}, api.ErrLimit, api.Pos{})
}

// chain returns an expression with so many different nodes.
func chain(nodes int) typed.Expr {
	e := typed.Num(vec(4, 0))
	for range nodes - 1 {
		e = typed.Expr{Kind: typed.Un, Op: bv.Neg, Width: 4, Args: []typed.Expr{e}}
	}
	return e
}
