package ast_test

import (
	"math/rand/v2"
	"slices"
	"sort"
	"strconv"
	"testing"

	"sluicegate/ast"
)

func TestP9_1Kinds(t *testing.T) {
	for i, kinds := range [][]int{
		{ast.Num, ast.Name, ast.Un, ast.Bin, ast.Cond, ast.Cat, ast.Rep, ast.Index, ast.Range, ast.Call},
		{ast.Block, ast.Set, ast.Later, ast.If, ast.Case, ast.For, ast.Assert, ast.Null},
		{ast.Net, ast.Param, ast.Genvar, ast.Assign, ast.Comb, ast.Clocked, ast.Func, ast.Inst, ast.GenFor, ast.GenIf, ast.GenBlock},
	} {
		for j, kind := range kinds {
			if kind != j+1 {
				t.Errorf("P9.1: kind %d of list %d is %d", j+1, i, kind)
			}
		}
	}
}

func TestP9_2Depth(t *testing.T) {
	a := name("a")
	deep := un("-", un("-", a))
	for _, x := range []struct {
		e    ast.Expr
		want int
	}{
		{ast.Expr{}, 1}, {a, 1}, {num("1"), 1}, {ast.Expr{Kind: ast.Call, Args: []ast.Expr{}}, 1},
		{un("-", a), 2}, {bin(a, "+", a), 2}, {cond(a, a, a), 2}, {part(ast.Cat, "", a), 2}, {part(ast.Rep, "", a, a), 2},
		{part(ast.Index, "a", a), 2}, {part(ast.Range, "a", a, a), 2}, {part(ast.Call, "f", a), 2}, {part(ast.Call, "f", a, a, a, a), 2},
		{deep, 3}, {bin(deep, "+", a), 4}, {bin(a, "+", deep), 4}, {bin(deep, "+", deep), 4}, {bin(un("-", a), "+", deep), 4},
		{cond(deep, a, a), 4}, {cond(a, deep, a), 4}, {cond(a, a, deep), 4}, {cond(un("-", a), deep, a), 4},
		{part(ast.Cat, "", a, a, deep, a), 4}, {part(ast.Rep, "", deep, a), 4}, {part(ast.Rep, "", a, a, deep), 4},
		{part(ast.Index, "a", deep), 4}, {part(ast.Range, "a", deep, a), 4}, {part(ast.Range, "a", a, deep), 4}, {part(ast.Call, "f", a, deep), 4},
	} {
		if got := ast.Depth(x.e); got != x.want {
			t.Errorf("P9.2: %+v: the depth is %d, not %d", x.e, got, x.want)
		}
	}
}

// chain returns an expression with so many parts within one another, at the
// left or at the right.
func chain(depth int, isLeft bool) ast.Expr {
	e := name("x")
	for i := range depth - 1 {
		other := name("n" + strconv.Itoa(i%7))
		if isLeft {
			e = bin(e, "+", other)
		} else {
			e = bin(other, "+", e)
		}
	}
	return e
}

func TestP9_2LongChains(t *testing.T) {
	for _, depth := range []int{1, 2, 40, 41, 6000, 1 << 16} {
		for _, isLeft := range []bool{true, false} {
			e := chain(depth, isLeft)
			if got := ast.Depth(e); got != depth {
				t.Errorf("P9.2: the depth of a chain is %d, not %d", got, depth)
			}
			if got, want := len(ast.Names(e)), min(7, depth-1)+1; got != want {
				t.Errorf("P9.2: a chain has %d names, not %d", got, want)
			}
		}
	}
}

func TestP9_2Names(t *testing.T) {
	a, b := name("a"), name("b")
	for _, x := range []struct {
		e    ast.Expr
		want []string
	}{
		{ast.Expr{}, nil}, {num("1"), nil}, {num("4'hab"), nil}, {bin(num("1"), "+", un("-", num("2"))), nil},
		{a, []string{"a"}}, {bin(a, "+", a), []string{"a"}}, {bin(b, "+", a), []string{"a", "b"}}, {un("~", a), []string{"a"}},
		{cond(a, b, name("c")), []string{"a", "b", "c"}}, {cond(name("c"), b, a), []string{"a", "b", "c"}},
		{part(ast.Cat, "", b, num("1"), a, b), []string{"a", "b"}}, {part(ast.Rep, "", name("W"), a), []string{"W", "a"}},
		{part(ast.Index, "m", a), []string{"a", "m"}}, {part(ast.Index, "m", part(ast.Index, "m", num("0"))), []string{"m"}},
		{part(ast.Range, "v", name("H"), name("L")), []string{"H", "L", "v"}}, {part(ast.Range, "v", num("1"), num("0")), []string{"v"}},
		{part(ast.Call, "f", a, b), []string{"a", "b", "f"}}, {part(ast.Call, "f", num("1")), []string{"f"}},
		{part(ast.Call, "$signed", a), []string{"a"}}, {part(ast.Call, "$unsigned", a), []string{"a"}}, {part(ast.Call, "$unsigned", part(ast.Call, "$signed", num("1"))), nil},
		{part(ast.Call, "signed_", part(ast.Call, "$signed", part(ast.Call, "unsigned1", a))), []string{"a", "signed_", "unsigned1"}},
		{part(ast.Cat, "", exprs("b", "B", "_", "a1", "a", "Z", "a_", "aB", "ab", "a0", "_a", "A9")...), []string{"A9", "B", "Z", "_", "_a", "a", "a0", "a1", "aB", "a_", "ab", "b"}},
		{bin(un("!", bin(name("d"), "&&", part(ast.Call, "g", part(ast.Index, "c", a)))), "||", cond(num("1"), b, a)), []string{"a", "b", "c", "d", "g"}},
	} {
		if got := ast.Names(x.e); !slices.Equal(got, x.want) {
			t.Errorf("P9.2: %+v: the names are %q, not %q", x.e, got, x.want)
		}
	}
}

// somePart returns an expression at random, whose names are added to a set, and
// its depth.
func somePart(r *rand.Rand, most int, names map[string]bool) (ast.Expr, int) {
	text := "n" + strconv.Itoa(r.IntN(30))
	if most == 1 || r.IntN(4) == 0 {
		if r.IntN(3) == 0 {
			return num("7"), 1
		}
		names[text] = true
		return name(text), 1
	}
	kinds := []int{ast.Un, ast.Bin, ast.Cond, ast.Cat, ast.Rep, ast.Index, ast.Range, ast.Call}
	counts := []int{1, 2, 3, 1 + r.IntN(3), 2 + r.IntN(2), 1, 2, 1 + r.IntN(3)}
	i := r.IntN(len(kinds))
	e := ast.Expr{Kind: kinds[i]}
	switch {
	case e.Kind == ast.Call && r.IntN(3) == 0:
		e.Text = []string{"$signed", "$unsigned"}[r.IntN(2)]
	case slices.Contains([]int{ast.Call, ast.Index, ast.Range}, e.Kind):
		e.Text = text
		names[text] = true
	}
	deepest := 0
	for range counts[i] {
		arg, depth := somePart(r, most-1, names)
		e.Args = append(e.Args, arg)
		deepest = max(deepest, depth)
	}
	return e, deepest + 1
}

func TestP9_2SomeExpressions(t *testing.T) {
	r := rand.New(rand.NewPCG(9, 2))
	for range 5000 {
		names := map[string]bool{}
		e, depth := somePart(r, 1+r.IntN(6), names)
		var want []string
		for n := range names {
			want = append(want, n)
		}
		sort.Strings(want)
		if got := ast.Names(e); !slices.Equal(got, want) || ast.Depth(e) != depth {
			t.Fatalf("P9.2: %+v: the names are %q and the depth is %d, not %q and %d", e, got, ast.Depth(e), want, depth)
		}
	}
}

// TestP9_2NamesAreNew overwrites a result, and the tree behind one.
func TestP9_2NamesAreNew(t *testing.T) {
	e := bin(name("b"), "+", name("a"))
	first := ast.Names(e)
	clear(first)
	second := ast.Names(e)
	e.Args[0].Text = "z"
	if want := []string{"a", "b"}; !slices.Equal(second, want) || !slices.Equal(ast.Names(e), []string{"a", "z"}) {
		t.Errorf("P9.2: the names are %q and then %q", second, ast.Names(e))
	}
}
