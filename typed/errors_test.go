package typed_test

import (
	"math"
	"strings"
	"testing"

	"sluicegate/api"
	"sluicegate/ast"
	"sluicegate/sample"
	"sluicegate/typed"
)

// mustFail fails unless Self and Resolve of a text have that error at a part
// with that text, and nothing else.
func mustFail(t *testing.T, text string, want api.Errno, part string) {
	t.Helper()
	e := expr(t, text)
	width, signed, pos, err := typed.Self(scope(), e)
	if width != 0 || signed || err != want || sample.At(e, pos) != part {
		t.Errorf("P12.1: %s: %d, %v, error %d at %q; want error %d at %q", text, width, signed, err, sample.At(e, pos), want, part)
	}
	for _, width := range []int{0, 1, 128} {
		x, pos, err := typed.Resolve(scope(), e, width)
		if show(x) != show(typed.Expr{}) || err != want || sample.At(e, pos) != part {
			t.Errorf("P12.2: %s: %s, error %d at %q; want error %d at %q", text, show(x), err, sample.At(e, pos), want, part)
		}
	}
}

type fault struct {
	text string
	want api.Errno
	part string
}

func mustFailAll(t *testing.T, list []fault) {
	t.Helper()
	for _, x := range list {
		mustFail(t, x.text, x.want, x.part)
	}
}

func TestP12_2ErrorsOfNames(t *testing.T) {
	mustFailAll(t, []fault{
		{"no", api.ErrName, "no"},
		{"no [ 0 ]", api.ErrName, "no [ 0 ]"},
		{"no [ a ]", api.ErrName, "no [ a ]"},
		{"no [ 1 : 0 ]", api.ErrName, "no [ 1 : 0 ]"},
		{"no ( a )", api.ErrName, "no ( a )"},
		{"a ( b )", api.ErrKind, "a ( b )"},
		{"m ( b )", api.ErrKind, "m ( b )"},
		{"W ( b )", api.ErrKind, "W ( b )"},
		{"twice", api.ErrKind, "twice"},
		{"twice [ 0 ]", api.ErrKind, "twice [ 0 ]"},
		{"twice [ a ]", api.ErrKind, "twice [ a ]"},
		{"twice [ 1 : 0 ]", api.ErrKind, "twice [ 1 : 0 ]"},
		{"W [ 0 ]", api.ErrKind, "W [ 0 ]"},
		{"W [ 40 ]", api.ErrKind, "W [ 40 ]"},
		{"W [ a ]", api.ErrKind, "W [ a ]"},
		{"W [ 1 : 0 ]", api.ErrKind, "W [ 1 : 0 ]"},
		{"m", api.ErrKind, "m"},
		{"m + 1", api.ErrKind, "m"},
		{"m [ 1 : 0 ]", api.ErrKind, "m [ 1 : 0 ]"},
		{"m [ 9 : 8 ]", api.ErrKind, "m [ 9 : 8 ]"},
		{"OVER", api.ErrRange, "OVER"},
	})
}

func TestP12_2ErrorsOfConstants(t *testing.T) {
	mustFailAll(t, []fault{
		{"a [ b : 0 ]", api.ErrName, "b"},
		{"a [ 0 : b ]", api.ErrName, "b"},
		{"a [ no : b ]", api.ErrName, "no"},
		{"a [ 1 + b : no ]", api.ErrName, "b"},
		{"a [ 1 / 0 : 0 ]", api.ErrRange, "1 / 0"},
		{"a [ 3 : 1 << 31 ]", api.ErrRange, "1 << 31"},
		{"a [ { 1 } : 0 ]", api.ErrConst, "{ 1 }"},
		{"a [ 3 : & 1 ]", api.ErrConst, "& 1"},
		{"a [ OVER : 0 ]", api.ErrRange, "OVER"},
		{"a [ m : 0 ]", api.ErrName, "m"},
		{"no [ no2 : 0 ]", api.ErrName, "no2"},
		{"{ b { a } }", api.ErrName, "b"},
		{"{ no { no2 } }", api.ErrName, "no"},
		{"{ 1 - no { a } }", api.ErrName, "no"},
		{"{ a [ 0 ] { a } }", api.ErrConst, "a [ 0 ]"},
		{"{ 1 % 0 { no } }", api.ErrRange, "1 % 0"},
		{"{ $signed ( 1 ) { a } }", api.ErrConst, "$signed ( 1 )"},
		{"{ 0 { a } }", api.ErrRange, "0"},
		{"{ 0 { no } }", api.ErrRange, "0"},
		{"{ - 1 { a } }", api.ErrRange, "- 1"},
		{"{ LEAST { a } }", api.ErrRange, "LEAST"},
		{"{ W - 3 { a } }", api.ErrRange, "W - 3"},
	})
}

func TestP12_2ErrorsOfRanges(t *testing.T) {
	for _, index := range []string{"4", "5", "- 1", "MOST", "LEAST", "W + 1", "4'd8 + 4'd8", "128"} {
		e := expr(t, "a [ "+index+" ]")
		mustFail(t, "a [ "+index+" ]", api.ErrRange, sample.Text(e))
		e = expr(t, "m [ "+index+" ]")
		mustFail(t, "m [ "+index+" ]", api.ErrRange, sample.Text(e))
	}
	mustFailAll(t, []fault{
		{"z [ 1 ]", api.ErrRange, "z [ 1 ]"},
		{"u128 [ 128 ]", api.ErrRange, "u128 [ 128 ]"},
		{"n [ 64 ]", api.ErrRange, "n [ 64 ]"},
		{"one [ 1 ]", api.ErrRange, "one [ 1 ]"},
		{"a [ 4 : 0 ]", api.ErrRange, "a [ 4 : 0 ]"},
		{"a [ 4 : 4 ]", api.ErrRange, "a [ 4 : 4 ]"},
		{"a [ 3 : - 1 ]", api.ErrRange, "a [ 3 : - 1 ]"},
		{"a [ - 1 : - 1 ]", api.ErrRange, "a [ - 1 : - 1 ]"},
		{"a [ 0 : 1 ]", api.ErrRange, "a [ 0 : 1 ]"},
		{"a [ 0 : 9 ]", api.ErrRange, "a [ 0 : 9 ]"},
		{"a [ MOST : LEAST ]", api.ErrRange, "a [ MOST : LEAST ]"},
		{"a [ LEAST : MOST ]", api.ErrRange, "a [ LEAST : MOST ]"},
		{"u128 [ 128 : 0 ]", api.ErrRange, "u128 [ 128 : 0 ]"},
		{"u128 [ 128 : 1 ]", api.ErrRange, "u128 [ 128 : 1 ]"},
		{"no [ 0 : 1 ]", api.ErrRange, "no [ 0 : 1 ]"},
		{"m [ 0 : 1 ]", api.ErrRange, "m [ 0 : 1 ]"},
	})
}

// TestP12_2IndexesThatAreNotConstant: what layer 11 has no value for is not
// constant, so that it has an error only if it cannot be resolved.
func TestP12_2IndexesThatAreNotConstant(t *testing.T) {
	for _, text := range []string{"a [ 1 / 0 ]", "a [ { 1'b1 , 3'd0 } ]", "a [ 1 << 32 ]", "a [ 'hffffffff ]", "a [ b [ 3 ] ]", "m [ 1 / 0 ]", "a [ $signed ( 3'd7 ) ]"} {
		if e := resolved(t, scope(), text, 0); e.Kind != typed.Pick && e.Kind != typed.Word {
			t.Errorf("P12.2: %s: %s", text, show(e))
		}
	}
	mustEval(t, "a [ 1 ? 3 : no ]", 0, "1")
	mustFailAll(t, []fault{
		{"a [ no ]", api.ErrName, "no"},
		{"a [ z ? 3 : no ]", api.ErrName, "no"},
		{"a [ b [ 9 ] ]", api.ErrRange, "b [ 9 ]"},
		{"a [ m ]", api.ErrKind, "m"},
		{"m [ m ]", api.ErrKind, "m"},
		{"m [ no ]", api.ErrName, "no"},
		{"m [ 1 ? 3 : no ]", api.ErrName, "no"},
		{"m [ 0 && a [ 4 ] ]", api.ErrRange, "a [ 4 ]"},
		{"no [ no2 ]", api.ErrName, "no2"},
		{"W [ no2 ]", api.ErrName, "no2"},
	})
}

func TestP12_2ErrorsOfWidths(t *testing.T) {
	mustFailAll(t, []fault{
		{"{ u128 , z }", api.ErrWidth, "{ u128 , z }"},
		{"{ u64 , u65 }", api.ErrWidth, "{ u64 , u65 }"},
		{"{ 129 { z } }", api.ErrWidth, "{ 129 { z } }"},
		{"{ 33 { a } }", api.ErrWidth, "{ 33 { a } }"},
		{"{ 2 { u65 } }", api.ErrWidth, "{ 2 { u65 } }"},
		{"{ MOST { u128 , u128 } }", api.ErrWidth, "{ MOST { u128 , u128 } }"},
		{"{ MOST { no } }", api.ErrName, "no"},
		{"{ u128 , z , no }", api.ErrName, "no"},
		{"{ { u128 , z } , no }", api.ErrWidth, "{ u128 , z }"},
		{"{ 2 { { u128 , z } } }", api.ErrWidth, "{ u128 , z }"},
		{"a [ { u128 , z } ]", api.ErrWidth, "{ u128 , z }"},
		{"! { u128 , z }", api.ErrWidth, "{ u128 , z }"},
		{"a << { u65 , u64 }", api.ErrWidth, "{ u65 , u64 }"},
	})
}

func TestP12_2ErrorsOfCalls(t *testing.T) {
	mustFailAll(t, []fault{
		{"twice ( a , b )", api.ErrPort, "twice ( a , b )"},
		{"mix ( a )", api.ErrPort, "mix ( a )"},
		{"mix ( a , b , c )", api.ErrPort, "mix ( a , b , c )"},
		{"none ( a )", api.ErrPort, "none ( a )"},
		{"$signed ( a , b )", api.ErrPort, "$signed ( a , b )"},
		{"$unsigned ( a , b )", api.ErrPort, "$unsigned ( a , b )"},
		{"twice ( no )", api.ErrName, "no"},
		{"twice ( no , a )", api.ErrName, "no"},
		{"twice ( a , a [ 4 ] )", api.ErrRange, "a [ 4 ]"},
		{"no ( m )", api.ErrKind, "m"},
		{"$signed ( a , no )", api.ErrName, "no"},
		{"mix ( a [ 4 ] , no )", api.ErrRange, "a [ 4 ]"},
		{"mix ( twice ( a , b ) , no )", api.ErrPort, "twice ( a , b )"},
	})
	for _, name := range []string{"twice", "mix", "$signed", "$unsigned"} {
		e := sample.Placed(part(ast.Call, name))
		if _, pos, err := typed.Resolve(scope(), e, 0); err != api.ErrPort || pos != e.Pos {
			t.Errorf("P12.2: %s without arguments: error %d at %v", name, err, pos)
		}
	}
}

func TestP12_2TheFirstErrorIsReturned(t *testing.T) {
	for _, sign := range []string{"+", "-", "*", "/", "%", "&", "|", "^", "~^", "<<", ">>", "<<<", ">>>", "<", "<=", ">", ">=", "==", "!=", "&&", "||"} {
		mustFail(t, "a [ 4 ] "+sign+" no", api.ErrRange, "a [ 4 ]")
		mustFail(t, "no "+sign+" a [ 4 ]", api.ErrName, "no")
		mustFail(t, "z "+sign+" no", api.ErrName, "no")
	}
	for _, sign := range []string{"-", "~", "!", "&", "|", "^", "~&", "~|", "~^"} {
		mustFail(t, sign+" no", api.ErrName, "no")
	}
	mustFailAll(t, []fault{
		{"no ? m : a [ 4 ]", api.ErrName, "no"},
		{"z ? m : a [ 4 ]", api.ErrKind, "m"},
		{"z ? a : a [ 4 ]", api.ErrRange, "a [ 4 ]"},
		{"1 ? a : no", api.ErrName, "no"},
		{"0 && no", api.ErrName, "no"},
		{"{ m , no }", api.ErrKind, "m"},
		{"{ 2 { m , no } }", api.ErrKind, "m"},
		{"a [ m [ 4 ] ]", api.ErrRange, "m [ 4 ]"},
		{"m [ a [ 4 ] + no ]", api.ErrRange, "a [ 4 ]"},
		{"a [ 4 ]", api.ErrRange, "a [ 4 ]"},
		{"( a + no ) * m", api.ErrName, "no"},
		{"a + b * ( c - twice )", api.ErrKind, "twice"},
		{"{ a , { 0 { m } } , no }", api.ErrRange, "0"},
	})
}

// TestP12_2WidthsOfContexts: a context that is too wide is an error of the
// whole expression.
func TestP12_2WidthsOfContexts(t *testing.T) {
	e := expr(t, "a + b")
	for _, width := range []int{129, 1000, math.MaxInt, -1, math.MinInt} {
		x, pos, err := typed.Resolve(scope(), e, width)
		if show(x) != show(typed.Expr{}) || pos != e.Pos || err != api.ErrWidth {
			t.Errorf("P12.2: %d bits: error %d at %v", width, err, pos)
		}
		bad := expr(t, "1 + no")
		if _, pos, err := typed.Resolve(scope(), bad, width); pos != bad.Args[1].Pos || err != api.ErrName {
			t.Errorf("P12.2: %d bits: error %d at %v", width, err, pos)
		}
	}
}

// TestP12_2InvalidTrees: a result is needed for them too.
func TestP12_2InvalidTrees(t *testing.T) {
	signs := []string{"", "-", "+", "~", "!", "<<", ">=", "&&", "~^", "~&", "**", "no", "a", "m", "twice", "mix", "$signed", "1", "5'", "129'h0", "0'h0", "99999999999999"}
	args := []ast.Expr{part(ast.Name, "a"), part(ast.Num, "1"), part(ast.Name, "b"), {}, part(ast.Name, "no")}
	for kind := -1; kind <= 12; kind++ {
		for _, sign := range signs {
			for count := range len(args) {
				e := sample.Placed(part(kind, sign, args[:count]...))
				_, _, pos, err := typed.Self(scope(), e)
				x, at, other := typed.Resolve(scope(), e, 7)
				if pos != at || err != other || err != api.OK && show(x) != show(typed.Expr{}) {
					t.Errorf("P12.2: %v: error %d at %v, error %d at %v", e, err, pos, other, at)
				}
				if fault := faultOf(x); err == api.OK && fault != "" {
					t.Errorf("P12.4: %v: %s", e, fault)
				}
			}
		}
	}
}

// TestP12_2Texts: texts that are no literals, which the parser does not return.
func TestP12_2Texts(t *testing.T) {
	for text, want := range map[string]api.Errno{
		"": api.ErrForm, "x": api.ErrForm, "4'": api.ErrForm, "4'b2": api.ErrForm, "1\xff": api.ErrForm,
		"129'h0": api.ErrWidth, "2147483648": api.ErrRange,
	} {
		e := sample.Placed(part(ast.Bin, "+", part(ast.Name, "a"), part(ast.Num, text)))
		if _, pos, err := typed.Resolve(scope(), e, 0); err != want || pos != e.Args[1].Pos {
			t.Errorf("P12.2: %q: error %d at %v; want %d", text, err, pos, want)
		}
	}
}

// TestP12_2InvalidScopes: signals and functions that no design has.
func TestP12_2InvalidScopes(t *testing.T) {
	for _, n := range []int{math.MinInt, -1, 0, 129, math.MaxInt} {
		x := typed.Sig{Name: "x", Width: n, Words: n}
		odd := typed.Func{Params: []typed.Sig{x}, Width: n, Value: typed.Expr{Kind: typed.Ref, Sig: n, Width: n}}
		s := scope().Sig("x", n, x).Sig("v", n, typed.Sig{Width: n}).Func("f", odd).Func("g", typed.Func{Params: []typed.Sig{x}, Width: 4})
		for _, text := range []string{"x", "v", "x [ 0 ]", "x [ a ]", "v [ 0 ]", "v [ a ]", "v [ 3 : 0 ]", "f ( a )", "g ( a )", "v + a", "{ 2 { v } }", "a << v"} {
			for _, width := range []int{0, 1, 128} {
				e, _, err := typed.Resolve(s, expr(t, text), width)
				if err == api.OK {
					typed.Eval(e, usual())
				}
				if fault := faultOf(e); err == api.OK && fault != "" && !strings.Contains(text, "(") {
					t.Errorf("P12.4: %s, which has %d bits: %s", text, n, fault)
				}
			}
		}
	}
}
