package typed_test

import (
	"strings"
	"testing"

	"sluicegate/api"
	"sluicegate/ast"
	"sluicegate/bv"
	"sluicegate/typed"
)

// sumOf returns a sum of that many names; it has 2 * count - 1 parts.
func sumOf(count int, name string) ast.Expr {
	e := part(ast.Name, name)
	for range count - 1 {
		e = part(ast.Bin, "+", e, part(ast.Name, name))
	}
	return e
}

// mustResolve fails unless e has a result, and it is well-formed.
func mustResolve(t *testing.T, s typed.Scope, what string, e ast.Expr, width int) {
	t.Helper()
	x, pos, err := typed.Resolve(s, e, width)
	if err != api.OK || pos != (api.Pos{}) {
		t.Errorf("P12.2: %s: error %d", what, err)
		return
	}
	if n := typed.Nodes(x); n > api.MaxNodes {
		t.Errorf("P12.2: %s: %d nodes", what, n)
	}
	if fault := faultOf(x); fault != "" {
		t.Errorf("P12.4: %s: %s", what, fault)
	}
}

// mustExceed fails unless the error of e is ErrLimit.
func mustExceed(t *testing.T, s typed.Scope, what string, e ast.Expr, width int) {
	t.Helper()
	x, _, err := typed.Resolve(s, e, width)
	if err != api.ErrLimit || show(x) != show(typed.Expr{}) {
		t.Errorf("P12.2: %s: error %d", what, err)
	}
	if _, _, _, err := typed.Self(s, e); err != api.OK {
		t.Errorf("P12.1: %s: error %d", what, err)
	}
}

// TestP12_2NoLimitFor2000Parts: expressions that need many nodes for each part.
func TestP12_2NoLimitFor2000Parts(t *testing.T) {
	s := scope()
	mustResolve(t, s, "a sum", sumOf(1000, "c"), 128)
	for _, sign := range []string{"<<", ">>>", "&&", "<", "~^"} {
		e := part(ast.Name, "c")
		for range 999 {
			e = part(ast.Bin, sign, e, part(ast.Name, "c"))
		}
		mustResolve(t, s, sign, e, 128)
		e = part(ast.Name, "y")
		for range 999 {
			e = part(ast.Bin, sign, part(ast.Name, "c"), e)
		}
		mustResolve(t, s, sign, e, 128)
	}
	for _, sign := range []string{"~&", "-", "!"} {
		e := part(ast.Name, "c")
		for range 1999 {
			e = part(ast.Un, sign, e)
		}
		mustResolve(t, s, sign, e, 128)
	}
	// Each addition of a call has 5 parts: itself, the call, the Value, and the
	// argument twice.
	s = s.Func("wide", typed.Func{Params: []typed.Sig{{Width: 9}}, Width: 9, Signed: true, Value: typed.Signal(0, typed.Sig{Width: 9})})
	calls := part(ast.Name, "y")
	for range 399 {
		calls = part(ast.Bin, "+", calls, part(ast.Call, "wide", part(ast.Name, "c")))
	}
	mustResolve(t, s, "calls", calls, 128)
	repeated := part(ast.Rep, "", num10(100), part(ast.Un, "~&", sumOf(9, "c")))
	mustResolve(t, s, "a repetition", repeated, 128)
}

func TestP12_2LimitOfLongExpressions(t *testing.T) {
	s := scope()
	mustExceed(t, s, "a sum", sumOf(api.MaxNodes, "c"), 0)
	mustExceed(t, s, "a sum of extended numbers", sumOf(api.MaxNodes/2, "c"), 128)
	mustExceed(t, s, "a repetition", part(ast.Rep, "", num10(100), part(ast.Un, "&", sumOf(1001, "c"))), 0)
	value := sig(0)
	for range api.MaxNodes {
		value = typed.Expr{Kind: typed.Un, Op: bv.Not, Width: 4, Args: []typed.Expr{value}}
	}
	s = s.Func("long", typed.Func{Params: []typed.Sig{{Width: 4}}, Width: 4, Value: value})
	mustExceed(t, s, "a long function", part(ast.Call, "long", part(ast.Name, "a")), 0)
}

// TestP12_2LimitOfNestedParts: the results would have more nodes than there is
// memory.
func TestP12_2LimitOfNestedParts(t *testing.T) {
	x := typed.Sig{Width: 4}
	s := scope().Func("f", typed.Func{Params: []typed.Sig{x}, Width: 4, Value: typed.Two(bv.Add, typed.Signal(0, x), typed.Signal(0, x))})
	calls, repeated := part(ast.Name, "a"), part(ast.Name, "a")
	for range 1000 {
		calls = part(ast.Call, "f", calls)
		repeated = part(ast.Rep, "", num10(64), part(ast.Un, "&", repeated))
	}
	mustExceed(t, s, "nested calls", calls, 0)
	mustExceed(t, s, "nested repetitions", repeated, 0)
	text := strings.Repeat("f ( ", 5) + "a" + strings.Repeat(" )", 5)
	if v := typed.Eval(resolved(t, s, text, 0), usual()); v.Text() != "0000" {
		t.Errorf("P12.2: %s: %s", text, v.Text())
	}
}

// TestP12_2OtherErrorsComeFirst: ErrLimit is returned if there is no other
// error.
func TestP12_2OtherErrorsComeFirst(t *testing.T) {
	e := part(ast.Bin, "+", sumOf(api.MaxNodes, "c"), part(ast.Name, "no"))
	if _, _, err := typed.Resolve(scope(), e, 0); err != api.ErrName {
		t.Errorf("P12.2: error %d", err)
	}
	if _, _, err := typed.Resolve(scope(), sumOf(api.MaxNodes, "c"), 129); err != api.ErrWidth {
		t.Errorf("P12.2: error %d", err)
	}
}
