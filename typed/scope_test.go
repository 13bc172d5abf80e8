package typed_test

import (
	"math"
	"strconv"
	"testing"

	"sluicegate/api"
	"sluicegate/ast"
	"sluicegate/bv"
	"sluicegate/konst"
	"sluicegate/typed"
)

// found is what Find returns.
type found struct {
	kind, num int
	sig       typed.Sig
}

// mustFind fails unless the names a, b, c and d, and no others, have these
// meanings in s, and its Env their numbers.
func mustFind(t *testing.T, s typed.Scope, want map[string]found) {
	t.Helper()
	numbers := 0
	for _, name := range []string{"a", "b", "c", "d", "", "A", "no"} {
		kind, num, x := s.Find(name)
		if got := (found{kind, num, x}); got != want[name] {
			t.Errorf("P12.2: %q is %v, not %v", name, got, want[name])
		}
		n, is := s.Env().Find(name)
		if is != (want[name].kind == 1) || is && n != want[name].num || !is && n != 0 {
			t.Errorf("P12.2: the number of %q is %d, %v", name, n, is)
		}
		if want[name].kind == 1 {
			numbers++
		}
	}
	if n := s.Env().Len(); n != numbers {
		t.Errorf("P12.2: %d numbers, not %d", n, numbers)
	}
}

var (
	wire   = typed.Sig{Name: "w", Width: 9, Signed: true}
	memory = typed.Sig{Name: "x", Width: 8, Words: 3}
)

func TestP12_2Scopes(t *testing.T) {
	empty := typed.Scope{}
	mustFind(t, empty, nil)
	one := empty.Const("a", -5)
	two := one.Sig("b", 7, wire)
	three := two.Func("c", typed.Func{Width: 4})
	four := three.Sig("d", -1, memory)
	mustFind(t, one, map[string]found{"a": {kind: 1, num: -5}})
	mustFind(t, two, map[string]found{"a": {kind: 1, num: -5}, "b": {2, 7, wire}})
	mustFind(t, three, map[string]found{"a": {kind: 1, num: -5}, "b": {2, 7, wire}, "c": {kind: 3}})
	mustFind(t, four, map[string]found{"a": {kind: 1, num: -5}, "b": {2, 7, wire}, "c": {kind: 3}, "d": {2, -1, memory}})
	mustFind(t, empty, nil)
	mustFind(t, empty.Const("", math.MinInt), map[string]found{"": {kind: 1, num: math.MinInt}})
}

// TestP12_2ASecondMeaning: a name has the meaning that it was given last.
func TestP12_2ASecondMeaning(t *testing.T) {
	give := []func(s typed.Scope, name string) typed.Scope{
		func(s typed.Scope, name string) typed.Scope { return s.Const(name, 3) },
		func(s typed.Scope, name string) typed.Scope { return s.Const(name, 4) },
		func(s typed.Scope, name string) typed.Scope { return s.Sig(name, 5, wire) },
		func(s typed.Scope, name string) typed.Scope { return s.Sig(name, 0, memory) },
		func(s typed.Scope, name string) typed.Scope { return s.Func(name, typed.Func{Width: 4}) },
	}
	meanings := []found{{kind: 1, num: 3}, {kind: 1, num: 4}, {2, 5, wire}, {2, 0, memory}, {kind: 3}}
	for i := range give {
		for j := range give {
			root := typed.Scope{}.Const("b", 1).Const("c", 2)
			before := give[i](root, "a")
			after := give[j](before, "a")
			mustFind(t, after, map[string]found{"a": meanings[j], "b": {kind: 1, num: 1}, "c": {kind: 1, num: 2}})
			mustFind(t, before, map[string]found{"a": meanings[i], "b": {kind: 1, num: 1}, "c": {kind: 1, num: 2}})
			mustFind(t, give[j](before, "b"), map[string]found{"a": meanings[i], "b": meanings[j], "c": {kind: 1, num: 2}})
		}
	}
}

func TestP12_2Without(t *testing.T) {
	s := typed.Scope{}.Const("a", 1).Sig("b", 2, wire).Func("c", typed.Func{Width: 4}).Sig("d", 3, memory)
	a, b, c, d := found{kind: 1, num: 1}, found{2, 2, wire}, found{kind: 3}, found{2, 3, memory}
	mustFind(t, s.Without(1), map[string]found{"b": b, "c": c, "d": d})
	mustFind(t, s.Without(2), map[string]found{"a": a, "c": c})
	mustFind(t, s.Without(3), map[string]found{"a": a, "b": b, "d": d})
	mustFind(t, s.Without(1).Without(2).Without(3), nil)
	for _, kind := range []int{math.MinInt, -1, 0, 4, math.MaxInt} {
		mustFind(t, s.Without(kind), map[string]found{"a": a, "b": b, "c": c, "d": d})
		mustFind(t, typed.Scope{}.Without(kind), nil)
	}
	mustFind(t, s, map[string]found{"a": a, "b": b, "c": c, "d": d})
	mustFind(t, s.Without(2).Sig("b", 9, wire), map[string]found{"a": a, "b": {2, 9, wire}, "c": c})
	mustFind(t, s.Without(1).Const("d", 9), map[string]found{"b": b, "c": c, "d": {kind: 1, num: 9}})
}

// TestP12_2WithoutUncoversNothing: a name that had a meaning before has none
// when its last one is taken away.
func TestP12_2WithoutUncoversNothing(t *testing.T) {
	s := typed.Scope{}.Const("a", 1).Sig("a", 2, wire)
	mustFind(t, s.Without(2), nil)
	mustFind(t, s.Without(1), map[string]found{"a": {2, 2, wire}})
	if _, pos, err := typed.Resolve(s.Without(2), part(ast.Name, "a"), 0); err != api.ErrName || pos != (api.Pos{}) {
		t.Errorf("P12.2: error %d", err)
	}
}

// TestP12_2NamesInScopes: the meanings are those that Resolve finds.
func TestP12_2NamesInScopes(t *testing.T) {
	name := part(ast.Name, "a")
	s := typed.Scope{}.Sig("a", 4, wire)
	if e, _, err := typed.Resolve(s, name, 0); err != api.OK || show(e) != show(typed.Signal(4, wire)) {
		t.Errorf("P12.2: a signal: %s, error %d", show(e), err)
	}
	s = s.Const("a", -2)
	if e, _, err := typed.Resolve(s, name, 4); err != api.OK || typed.Eval(e, nil).Text() != "1110" {
		t.Errorf("P12.2: a number: %s, error %d", show(e), err)
	}
	s = s.Func("a", typed.Func{Width: 4})
	if _, _, err := typed.Resolve(s, name, 4); err != api.ErrKind {
		t.Errorf("P12.2: a function: error %d", err)
	}
	if _, _, err := typed.Resolve(s.Without(3), name, 4); err != api.ErrName {
		t.Errorf("P12.2: nothing: error %d", err)
	}
}

// TestP12_2FunctionsAreNotKept: a scope does not change with what it was given.
func TestP12_2FunctionsAreNotKept(t *testing.T) {
	f := typed.Func{Params: []typed.Sig{{Width: 4}}, Width: 4, Value: typed.One(bv.Not, typed.One(bv.Neg, sig(0)))}
	s := typed.Scope{}.Func("f", f).Sig("a", 0, typed.Sig{Width: 4})
	e := part(ast.Call, "f", part(ast.Name, "a"))
	before, _, _ := typed.Resolve(s, e, 0)
	text := show(before)
	f.Params[0].Width = 1
	spoil(f.Value)
	after, _, err := typed.Resolve(s, e, 0)
	if err != api.OK || show(after) != text {
		t.Errorf("P12.2: error %d, %s, not %s", err, show(after), text)
	}
	spoil(before)
	if again, _, _ := typed.Resolve(s, e, 0); show(again) != text {
		t.Errorf("P12.2: %s, not %s", show(again), text)
	}
}

// TestP12_2FunctionsOfParts: the Value of a function may be any expression, and
// in it Refs beyond the parameters are none.
func TestP12_2FunctionsOfParts(t *testing.T) {
	x := typed.Sig{Width: 4}
	first, second := typed.Signal(0, x), typed.Signal(1, x)
	value := typed.Choose(typed.Two(bv.Ult, first, second), typed.Two(bv.Sub, second, first), typed.Two(bv.Sub, first, second))
	s := scope().Func("diff", typed.Func{Params: []typed.Sig{x, x}, Width: 4, Value: value})
	for text, want := range map[string]string{
		"diff ( a , 4'd3 )":                "0110",
		"diff ( 4'd3 , a )":                "0110",
		"diff ( a , a )":                   "0000",
		"diff ( 4'd3 , 4'd3 + a )":         "1001",
		"diff ( diff ( a , 2 ) , 1 )":      "0110",
		"diff ( diff ( 2 , a ) , b [ 3 ])": "0110",
	} {
		if v := typed.Eval(resolved(t, s, text, 0), usual()); v.Text() != want {
			t.Errorf("P12.2: %s: %s, not %s", text, v.Text(), want)
		}
	}
}

// TestP12_2WidthsOfFunctions: a call is as wide as the function, whatever the
// width of its Value.
func TestP12_2WidthsOfFunctions(t *testing.T) {
	value := typed.Signal(0, typed.Sig{Width: 4})
	for _, x := range []struct {
		f    typed.Func
		want string
	}{
		{typed.Func{Width: 4, Value: value}, "1001"},
		{typed.Func{Width: 6, Value: value}, "001001"},
		{typed.Func{Width: 6, Signed: true, Value: value}, "111001"},
		{typed.Func{Width: 3, Value: value}, "001"},
	} {
		x.f.Params = []typed.Sig{{Width: 4}}
		s := scope().Func("f", x.f)
		if v := typed.Eval(resolved(t, s, "f ( a )", 0), usual()); v.Text() != x.want {
			t.Errorf("P12.2: %s, not %s", v.Text(), x.want)
		}
	}
}

func TestP12_2ManyNames(t *testing.T) {
	const count = 500
	s := typed.Scope{}
	for i := range count {
		name := "n" + strconv.Itoa(i)
		s = s.Const(name, i).Sig("s"+strconv.Itoa(i), i, wire)
		if i%7 == 0 {
			s = s.Sig(name, i, wire)
		}
	}
	env := konst.Env{}
	for i := range count {
		if i%7 != 0 {
			env = env.With("n"+strconv.Itoa(i), i)
		}
	}
	if s.Env().Len() != env.Len() {
		t.Errorf("P12.2: %d numbers, not %d", s.Env().Len(), env.Len())
	}
	for i := range count {
		name := "n" + strconv.Itoa(i)
		n, is := s.Env().Find(name)
		m, want := env.Find(name)
		if kind, num, _ := s.Find(name); n != m || is != want || num != i || (kind == 1) != want {
			t.Errorf("P12.2: %s is %d, %v; kind %d, number %d", name, n, is, kind, num)
		}
	}
}
