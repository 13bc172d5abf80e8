package typed_test

import (
	"slices"
	"testing"

	"sluicegate/bv"
	"sluicegate/typed"
)

// sig returns a Ref of four bits.
func sig(n int) typed.Expr { return typed.Expr{Kind: typed.Ref, Width: 4, Sig: n} }

// wordOf returns a word of four bits of a memory.
func wordOf(n int, at typed.Expr) typed.Expr {
	return typed.Expr{Kind: typed.Word, Width: 4, Sig: n, Args: []typed.Expr{at}}
}

func TestP12_3RefsAndNodes(t *testing.T) {
	for _, x := range []struct {
		e     typed.Expr
		refs  []int
		nodes int
	}{
		{num("1001"), nil, 1},
		{sig(0), []int{0}, 1},
		{sig(7), []int{7}, 1},
		{typed.Part(sig(7), 1, 2), []int{7}, 2},
		{wordOf(3, num("1")), []int{3}, 2},
		{wordOf(3, sig(1)), []int{1, 3}, 2},
		{wordOf(1, sig(3)), []int{1, 3}, 2},
		{wordOf(2, wordOf(2, sig(2))), []int{2}, 3},
		{typed.Two(bv.Add, sig(5), sig(2)), []int{2, 5}, 3},
		{typed.Two(bv.Add, sig(2), sig(2)), []int{2}, 3},
		{typed.Choose(sig(9), sig(4), typed.Two(bv.Or, sig(0), sig(9))), []int{0, 4, 9}, 6},
		{node(typed.Cat, 12, sig(10), sig(2), sig(10)), []int{2, 10}, 4},
		{node(typed.Pick, 1, sig(3), wordOf(0, sig(300))), []int{0, 3, 300}, 4},
		{typed.Wide(typed.One(bv.Not, sig(1)), 9, true), []int{1}, 3},
		{typed.Expr{Kind: typed.Un, Sig: 5, Op: bv.Not, Width: 4, Args: []typed.Expr{sig(1)}}, []int{1}, 2},
	} {
		before := show(x.e)
		if refs := typed.Refs(x.e); !slices.Equal(refs, x.refs) {
			t.Errorf("P12.3: Refs of %s: %v, not %v", before, refs, x.refs)
		}
		if n := typed.Nodes(x.e); n != x.nodes {
			t.Errorf("P12.3: Nodes of %s: %d, not %d", before, n, x.nodes)
		}
		if show(x.e) != before {
			t.Errorf("P12.3: %s was changed", before)
		}
	}
}

func TestP12_3Subst(t *testing.T) {
	p, q := typed.One(bv.Not, sig(1)), num("1010")
	for _, x := range []struct {
		e, want typed.Expr
	}{
		{sig(0), p},
		{sig(1), q},
		{sig(2), sig(2)},
		{sig(100), sig(100)},
		{sig(-1), sig(-1)},
		{num("1001"), num("1001")},
		{typed.Two(bv.Add, sig(0), sig(0)), typed.Two(bv.Add, p, p)},
		{typed.Two(bv.Sub, sig(1), sig(2)), typed.Two(bv.Sub, q, sig(2))},
		{wordOf(0, sig(1)), wordOf(0, q)},
		{wordOf(1, wordOf(0, sig(0))), wordOf(1, wordOf(0, p))},
		{typed.Choose(sig(1), sig(0), sig(3)), typed.Choose(q, p, sig(3))},
		{typed.Part(sig(1), 2, 2), typed.Expr{Kind: typed.Slice, Width: 2, Lo: 2, Args: []typed.Expr{q}}},
		{typed.Wide(typed.One(bv.Neg, sig(0)), 9, true), typed.Wide(typed.One(bv.Neg, p), 9, true)},
		{node(typed.Cat, 8, sig(1), sig(0)), node(typed.Cat, 8, q, p)},
	} {
		before := show(x.e)
		if e := typed.Subst(x.e, p, q); show(e) != show(x.want) {
			t.Errorf("P12.3: Subst in %s: %s, not %s", before, show(e), show(x.want))
		}
		if show(x.e) != before {
			t.Errorf("P12.3: Subst changed %s", before)
		}
		if e := typed.Subst(x.e); show(e) != before {
			t.Errorf("P12.3: Subst of nothing in %s: %s", before, show(e))
		}
	}
}

// TestP12_3SubstIsDoneOnce: signals of what is put in are not replaced.
func TestP12_3SubstIsDoneOnce(t *testing.T) {
	e := typed.Subst(typed.Two(bv.Add, sig(0), sig(1)), sig(1), sig(0))
	if want := typed.Two(bv.Add, sig(1), sig(0)); show(e) != show(want) {
		t.Errorf("P12.3: %s, not %s", show(e), show(want))
	}
}

func TestP12_3ResultsShareNoMemory(t *testing.T) {
	whole := typed.Two(bv.Add, typed.Two(bv.Sub, sig(0), sig(2)), typed.Part(sig(0), 0, 4))
	arg := typed.One(bv.Not, typed.One(bv.Neg, sig(5)))
	e := typed.Subst(whole, arg)
	alone := typed.Subst(sig(0), arg)
	same := typed.Subst(whole)
	mustShareNothing(t, e)
	before := show(e) + show(alone) + show(same)
	spoil(whole)
	spoil(arg)
	if show(e)+show(alone)+show(same) != before {
		t.Errorf("P12.3: a result of Subst has changed with its arguments")
	}
	refs := typed.Refs(same)
	refs[0] = 77
	if again := typed.Refs(same); again[0] != 0 {
		t.Errorf("P12.3: Refs: %v", again)
	}
}

// TestP12_3EvalOfSubst: the value of an expression is that of one with what
// its signals are in place of them.
func TestP12_3EvalOfSubst(t *testing.T) {
	s := usual()
	e := resolved(t, scope(), "( a + b ) * c - { d , z }", 20)
	args := make([]typed.Expr, len(signals))
	for i := range signals {
		args[i] = typed.Num(s.Sig(i))
	}
	changed := typed.Subst(e, args...)
	if refs := typed.Refs(changed); len(refs) != 0 {
		t.Errorf("P12.3: %v remain", refs)
	}
	if v, want := typed.Eval(changed, nil), typed.Eval(e, s); !bv.Equal(v, want) {
		t.Errorf("P12.3: %s, not %s", v.Text(), want.Text())
	}
}

func TestP12_3Deep(t *testing.T) {
	const depth = 1 << 16
	e := sig(3)
	for range depth {
		e = typed.Expr{Kind: typed.Un, Op: bv.Not, Width: 4, Args: []typed.Expr{e}}
	}
	changed := typed.Subst(e, sig(9), sig(9), sig(9), num("1001"))
	if n := typed.Nodes(changed); n != depth+1 {
		t.Errorf("P12.3: %d nodes", n)
	}
	if refs := typed.Refs(e); !slices.Equal(refs, []int{3}) {
		t.Errorf("P12.3: %v", refs)
	}
	if v := typed.Eval(changed, nil); v.Text() != "1001" {
		t.Errorf("P12.2: %s", v.Text())
	}
}
