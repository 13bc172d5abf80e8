package typed_test

import (
	"math"
	"math/big"
	"slices"
	"strings"
	"testing"

	"sluicegate/api"
	"sluicegate/bv"
	"sluicegate/typed"
)

var (
	zeros = strings.Repeat("0", 128)
	ones  = strings.Repeat("1", 128)
)

func TestP12_2KindsAreNumberedFrom1(t *testing.T) {
	list := []int{typed.Const, typed.Ref, typed.Word, typed.Pick, typed.Slice, typed.Un, typed.Bin, typed.Mux, typed.Cat, typed.Ext}
	for i, kind := range list {
		if kind != i+1 {
			t.Errorf("P12.2: the kind %d has the number %d", i+1, kind)
		}
	}
}

// node returns an expression of any kind.
func node(kind, width int, args ...typed.Expr) typed.Expr {
	return typed.Expr{Kind: kind, Width: width, Args: args}
}

// num returns the Const with the given digits.
func num(digits string) typed.Expr { return typed.Num(vec(digits)) }

// word returns a word of a memory of the tests.
func word(name string, at typed.Expr) typed.Expr {
	x := signals[number(name)]
	return typed.Expr{Kind: typed.Word, Width: x.Width, Sig: number(name), Args: []typed.Expr{at}}
}

func TestP12_2Eval(t *testing.T) {
	for _, x := range []struct {
		e    typed.Expr
		want string
	}{
		{num("1001"), "1001"},
		{ref("a"), "1001"},
		{ref("b"), "11001000"},
		{ref("u128"), ones[1:] + "0"},
		{word("m", num("0")), "00000000"},
		{word("m", num("11")), "00011110"},
		{word("m", num("0000011")), "00011110"},
		{word("m", num("100")), "00000000"},
		{word("m", ref("a")), "00000000"},
		{word("n", num("111111")), "11110"},
		{word("n", num("1000000")), "00000"},
		{word("one", num("0")), ones[1:] + "0"},
		{word("one", num("1")), zeros},
		{node(typed.Pick, 1, ref("a"), num("0")), "1"},
		{node(typed.Pick, 1, ref("a"), num("10")), "0"},
		{node(typed.Pick, 1, ref("a"), num("011")), "1"},
		{node(typed.Pick, 1, ref("a"), num("100")), "0"},
		{node(typed.Pick, 1, num(ones), num("1111111")), "1"},
		{node(typed.Pick, 1, num(ones), num("10000000")), "0"},
		{node(typed.Pick, 1, num(ones), num(ones)), "0"},
		{node(typed.Pick, 1, num(ones), num("1"+zeros[1:])), "0"},
		{node(typed.Pick, 1, num("10"), num("1"+zeros[:64])), "0"},
		{typed.Part(ref("b"), 3, 4), "1001"},
		{typed.Part(ref("b"), 7, 1), "1"},
		{typed.Part(num(ones), 64, 64), ones[:64]},
		{typed.One(bv.Neg, ref("a")), "0111"},
		{typed.One(bv.RedXor, ref("b")), "1"},
		{typed.Two(bv.Add, ref("a"), num("1000")), "0001"},
		{typed.Two(bv.Slt, ref("a"), num("0000")), "1"},
		{typed.Choose(num("0100"), ref("a"), ref("c")), "1001"},
		{typed.Choose(num("1"), num("10"), num("01")), "10"},
		{typed.Choose(num("0000"), num("10"), num("01")), "01"},
		{typed.Choose(num("1"+zeros[1:]), num("10"), num("01")), "10"},
		{node(typed.Cat, 3, num("101")), "101"},
		{node(typed.Cat, 6, num("1"), num("01"), num("110")), "101110"},
		{node(typed.Cat, 128, num(ones[:64]), num(zeros[:64])), ones[:64] + zeros[:64]},
		{typed.Wide(ref("a"), 6, true), "111001"},
		{typed.Wide(ref("a"), 6, false), "001001"},
		{typed.Expr{Kind: typed.Ext, Width: 2, Args: []typed.Expr{ref("a")}}, "01"},
	} {
		if v := typed.Eval(x.e, usual()); v.Text() != x.want {
			t.Errorf("P12.2: %s: %s, not %s", show(x.e), v.Text(), x.want)
		}
	}
}

// asked is a State that remembers for which words it is asked.
type asked struct {
	state
	words []int
}

func (a *asked) Word(n, at int) bv.Vec {
	a.words = append(a.words, at)
	return vec("10101010")
}

func TestP12_2WordsOfAnyNumber(t *testing.T) {
	address := func(n *big.Int) typed.Expr { return word("m", typed.Num(vecOf(128, n))) }
	s := &asked{}
	for _, n := range []int64{0, 1, 3, 4, 63, 64, 1 << 32, 1<<40 - 1} {
		s.words = nil
		v := typed.Eval(address(big.NewInt(n)), s)
		if v.Text() != "10101010" || !slices.Equal(s.words, []int{int(n)}) {
			t.Errorf("P12.2: word %d: %s, asked for %v", n, v.Text(), s.words)
		}
	}
	s.words = nil
	for _, n := range []*big.Int{big.NewInt(1<<40 + 1), big.NewInt(1 << 41), big.NewInt(math.MaxInt64), power(63), power(64), power(127), new(big.Int).Sub(power(128), big.NewInt(1))} {
		if v := typed.Eval(address(n), s); v.Text() != "00000000" {
			t.Errorf("P12.2: word %v: %s", n, v.Text())
		}
	}
	for _, at := range s.words {
		if at < 0 || at > 1<<40 {
			t.Errorf("P12.2: a state was asked for word %d", at)
		}
	}
}

// TestP12_2Value: for all kinds that have one, Value of the values of the Args
// is what Eval returns.
func TestP12_2Value(t *testing.T) {
	a, b := vec("1001"), vec("0011")
	for _, x := range []struct {
		e    typed.Expr
		args []bv.Vec
		want string
	}{
		{node(typed.Pick, 1, ref("a"), ref("a")), []bv.Vec{a, b}, "1"},
		{node(typed.Pick, 1, ref("a"), ref("a")), []bv.Vec{a, a}, "0"},
		{typed.Part(ref("a"), 2, 2), []bv.Vec{a}, "10"},
		{typed.One(bv.Not, ref("a")), []bv.Vec{a}, "0110"},
		{typed.One(bv.Zero, ref("a")), []bv.Vec{a}, "0"},
		{typed.Two(bv.Sub, ref("a"), ref("a")), []bv.Vec{a, b}, "0110"},
		{typed.Two(bv.Sub, ref("a"), ref("a")), []bv.Vec{b, a}, "1010"},
		{typed.Two(bv.Ult, ref("a"), ref("a")), []bv.Vec{b, a}, "1"},
		{typed.Choose(ref("a"), ref("a"), ref("a")), []bv.Vec{vec("0010"), a, b}, "1001"},
		{typed.Choose(ref("a"), ref("a"), ref("a")), []bv.Vec{vec("0000"), a, b}, "0011"},
		{node(typed.Cat, 12, ref("a"), ref("a"), ref("a")), []bv.Vec{a, b, a}, "100100111001"},
		{node(typed.Cat, 4, ref("a")), []bv.Vec{b}, "0011"},
		{typed.Wide(ref("a"), 6, true), []bv.Vec{a}, "111001"},
		{typed.Wide(ref("a"), 6, false), []bv.Vec{a}, "001001"},
	} {
		before := show(x.e)
		if v := typed.Value(x.e, x.args...); v.Text() != x.want {
			t.Errorf("P12.2: Value of %s: %s, not %s", before, v.Text(), x.want)
		}
		if show(x.e) != before {
			t.Errorf("P12.2: Value changed %s", before)
		}
	}
}

func TestP12_2Constructors(t *testing.T) {
	a, b := ref("a"), ref("b")
	for _, x := range []struct {
		what string
		e    typed.Expr
		want typed.Expr
	}{
		{"Num", num("101"), typed.Expr{Kind: typed.Const, Width: 3, Val: vec("101")}},
		{"Signal", typed.Signal(7, typed.Sig{Name: "x", Width: 65, Signed: true}), typed.Expr{Kind: typed.Ref, Width: 65, Sig: 7}},
		{"Part", typed.Part(b, 2, 3), typed.Expr{Kind: typed.Slice, Width: 3, Lo: 2, Args: []typed.Expr{b}}},
		{"Part", typed.Part(b, 0, 7), typed.Expr{Kind: typed.Slice, Width: 7, Args: []typed.Expr{b}}},
		{"Part of all", typed.Part(b, 0, 8), b},
		{"Part", typed.Part(b, 1, 7), typed.Expr{Kind: typed.Slice, Width: 7, Lo: 1, Args: []typed.Expr{b}}},
		{"Wide", typed.Wide(a, 8, true), typed.Expr{Kind: typed.Ext, Width: 8, Signed: true, Args: []typed.Expr{a}}},
		{"Wide", typed.Wide(a, 5, false), typed.Expr{Kind: typed.Ext, Width: 5, Args: []typed.Expr{a}}},
		{"Wide of as many", typed.Wide(a, 4, true), a},
		{"Wide of more", typed.Wide(b, 4, true), typed.Expr{Kind: typed.Slice, Width: 4, Args: []typed.Expr{b}}},
		{"One", typed.One(bv.Not, b), typed.Expr{Kind: typed.Un, Op: bv.Not, Width: 8, Args: []typed.Expr{b}}},
		{"One", typed.One(bv.Neg, b), typed.Expr{Kind: typed.Un, Op: bv.Neg, Width: 8, Args: []typed.Expr{b}}},
		{"One", typed.One(bv.RedAnd, b), typed.Expr{Kind: typed.Un, Op: bv.RedAnd, Width: 1, Args: []typed.Expr{b}}},
		{"One", typed.One(bv.Zero, b), typed.Expr{Kind: typed.Un, Op: bv.Zero, Width: 1, Args: []typed.Expr{b}}},
		{"Two", typed.Two(bv.Add, a, a), typed.Expr{Kind: typed.Bin, Op: bv.Add, Width: 4, Args: []typed.Expr{a, a}}},
		{"Two", typed.Two(bv.Sar, b, b), typed.Expr{Kind: typed.Bin, Op: bv.Sar, Width: 8, Args: []typed.Expr{b, b}}},
		{"Two", typed.Two(bv.Eq, a, a), typed.Expr{Kind: typed.Bin, Op: bv.Eq, Width: 1, Args: []typed.Expr{a, a}}},
		{"Two", typed.Two(bv.Sle, a, a), typed.Expr{Kind: typed.Bin, Op: bv.Sle, Width: 1, Args: []typed.Expr{a, a}}},
		{"Truth of a bit", typed.Truth(ref("z")), ref("z")},
		{"Choose", typed.Choose(b, a, a), typed.Expr{Kind: typed.Mux, Width: 4, Args: []typed.Expr{b, a, a}}},
	} {
		if show(x.e) != show(x.want) {
			t.Errorf("P12.2: %s: %s, not %s", x.what, show(x.e), show(x.want))
		}
		if fault := faultOf(x.e); fault != "" {
			t.Errorf("P12.4: %s: %s", x.what, fault)
		}
	}
	for digits, want := range map[string]string{"0000": "0", "1000": "1", "0001": "1", "0": "0", "1": "1", zeros: "0", "1" + zeros[1:]: "1"} {
		e := typed.Truth(num(digits))
		if v := typed.Eval(e, usual()); v.Text() != want || e.Width != 1 || faultOf(e) != "" {
			t.Errorf("P12.2: Truth of %s: %s", digits, v.Text())
		}
	}
}

// TestP12_2EveryOperation: Eval and Value agree with bv for all operations.
func TestP12_2EveryOperation(t *testing.T) {
	for _, width := range []int{1, 2, 64, 65, 128} {
		n := new(big.Int).Sub(power(width), big.NewInt(3))
		a, b := vecOf(width, n), vecOf(width, big.NewInt(int64(width/2)))
		for op := bv.Add; op <= bv.Sle; op++ {
			want, _ := bv.Bin(op, a, b)
			e := typed.Two(op, typed.Num(a), typed.Num(b))
			if v := typed.Eval(e, nil); !bv.Equal(v, want) || v.Width() != e.Width {
				t.Errorf("P12.2: operation %d of %d bits: %s, not %s", op, width, v.Text(), want.Text())
			}
		}
		for op := bv.Not; op <= bv.Zero; op++ {
			want, _ := bv.Un(op, a)
			e := typed.One(op, typed.Num(a))
			if v := typed.Value(e, a); !bv.Equal(v, want) || v.Width() != e.Width {
				t.Errorf("P12.2: operation %d of %d bits: %s, not %s", op, width, v.Text(), want.Text())
			}
		}
	}
}

func TestP12_2ConstructorsKeepNoArgument(t *testing.T) {
	arg := typed.Part(ref("b"), 2, 3)
	list := []typed.Expr{
		typed.Part(arg, 0, 3), typed.Part(arg, 1, 2), typed.Wide(arg, 3, true), typed.Wide(arg, 2, true), typed.Wide(arg, 9, true),
		typed.One(bv.Not, arg), typed.Two(bv.And, arg, arg), typed.Truth(arg), typed.Truth(typed.Part(arg, 0, 1)), typed.Choose(arg, arg, arg),
	}
	before := make([]string, len(list))
	for i, e := range list {
		before[i] = show(e)
	}
	spoil(arg)
	for i, e := range list {
		if show(e) != before[i] {
			t.Errorf("P12.2: %s has become %s", before[i], show(e))
		}
		mustShareNothing(t, e)
	}
}

// spoil overwrites all Args of an expression.
func spoil(e typed.Expr) {
	for i := range e.Args {
		spoil(e.Args[i])
		e.Args[i] = typed.Expr{Kind: -1}
	}
}

// mustShareNothing fails if two expressions in e have the same Args.
func mustShareNothing(t *testing.T, e typed.Expr) {
	t.Helper()
	seen := map[*typed.Expr]int{}
	var visit func(e typed.Expr)
	visit = func(e typed.Expr) {
		for i := range e.Args {
			seen[&e.Args[i]]++
			if seen[&e.Args[i]] > 1 {
				t.Errorf("P12.2: a part occurs twice in memory: %s", show(e))
			}
			visit(e.Args[i])
		}
	}
	visit(e)
}

// TestP12_2InvalidExpressions: all functions return for them too.
func TestP12_2InvalidExpressions(t *testing.T) {
	args := [][]typed.Expr{nil, {num("1")}, {num("1"), num("10")}, {num("10"), num("10"), {}}, {{}, {}}, {num("1"), num("1"), num("1"), num("1")}}
	for kind := -1; kind <= 12; kind++ {
		for _, list := range args {
			for _, n := range []int{math.MinInt, -1, 0, 1, 2, 5, 128, 129, math.MaxInt} {
				for _, e := range []typed.Expr{
					{Kind: kind, Width: n, Args: list},
					{Kind: kind, Width: 2, Op: n, Args: list},
					{Kind: kind, Width: 2, Lo: n, Args: list},
					{Kind: kind, Width: 2, Sig: n, Args: list},
				} {
					checkReturns(e)
				}
			}
		}
	}
}

// checkReturns calls all functions of expressions.
func checkReturns(e typed.Expr) {
	typed.Eval(e, nil)
	typed.Eval(e, usual())
	typed.Eval(e, state{})
	for _, args := range [][]bv.Vec{nil, {{}}, {vec("1")}, {vec("1"), vec("10")}, {vec("1"), {}}, {{}, {}, {}}, {vec("1"), vec("1"), vec("1")}} {
		typed.Value(e, args...)
	}
	typed.Refs(e)
	typed.Nodes(e)
	typed.Subst(e, e, num("1"))
	for _, n := range []int{-1, 0, 1, 1000} {
		typed.Part(e, n, n)
		typed.Wide(e, n, true)
		typed.One(n, e)
		typed.Two(n, e, e)
	}
	typed.Truth(e)
	typed.Choose(e, e, e)
}

// wrongState returns vectors of other widths.
type wrongState struct{ v bv.Vec }

func (s wrongState) Sig(int) bv.Vec       { return s.v }
func (s wrongState) Word(int, int) bv.Vec { return s.v }

func TestP12_2StatesWithOtherWidths(t *testing.T) {
	e := resolved(t, scope(), "a + m [ b ] * { c , u128 [ a ] } == ( z ? d : s65 )", 0)
	for _, v := range []bv.Vec{{}, vec("1"), vec(ones)} {
		typed.Eval(e, wrongState{v})
	}
	if v := typed.Eval(word("m", num("1")), wrongState{}); v.Text() != "00000000" {
		t.Errorf("P12.2: a word that a state does not have: %s", v.Text())
	}
	if api.MaxWidth != 128 {
		t.Errorf("the widths of the tests are those of other limits")
	}
}
