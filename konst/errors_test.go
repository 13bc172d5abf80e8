package konst_test

import (
	"math"
	"testing"

	"sluicegate/api"
	"sluicegate/ast"
	"sluicegate/konst"
	"sluicegate/sample"
)

func TestP11_1Errors(t *testing.T) {
	for _, x := range []struct {
		text string
		want api.Errno
		part string
	}{
		{"x", api.ErrName, "x"},
		{"1 + x", api.ErrName, "x"},
		{"- x", api.ErrName, "x"},
		{"OVER", api.ErrRange, "OVER"},
		{"UNDER", api.ErrRange, "UNDER"},
		{"1 + OVER - OVER", api.ErrRange, "OVER"},
		{"'h80000000", api.ErrRange, "'h80000000"},
		{"- 'h80000000", api.ErrRange, "'h80000000"},
		{"33'h1ffffffff", api.ErrRange, "33'h1ffffffff"},
		{"33'sh100000000", api.ErrRange, "33'sh100000000"},
		{"34'sh17fffffff", api.ErrRange, "34'sh17fffffff"},
		{"128'shffffffffffffffffffffffff7fffffff", api.ErrRange, "128'shffffffffffffffffffffffff7fffffff"},
		{"- LEAST", api.ErrRange, "- LEAST"},
		{"MOST + 1", api.ErrRange, "MOST + 1"},
		{"MOST + 1 - 1", api.ErrRange, "MOST + 1"},
		{"LEAST - 1", api.ErrRange, "LEAST - 1"},
		{"65536 * 32768", api.ErrRange, "65536 * 32768"},
		{"LEAST * LEAST", api.ErrRange, "LEAST * LEAST"},
		{"LEAST / - 1", api.ErrRange, "LEAST / ( - 1 )"},
		{"1 / 0", api.ErrRange, "1 / 0"},
		{"1 % 0", api.ErrRange, "1 % 0"},
		{"0 / ZERO", api.ErrRange, "0 / ZERO"},
		{"LEAST % ZERO", api.ErrRange, "LEAST % ZERO"},
		{"x / 0", api.ErrName, "x"},
		{"1 / 0 + x", api.ErrRange, "1 / 0"},
		{"x + 1 / 0", api.ErrName, "x"},
		{"1 / 0 / 0", api.ErrRange, "1 / 0"},
		{"1 / ( 0 * x )", api.ErrName, "x"},
		{"( MOST + 1 ) / 0", api.ErrRange, "MOST + 1"},
		{"x && y", api.ErrName, "x"},
		{"1 && y", api.ErrName, "y"},
		{"0 || y", api.ErrName, "y"},
		{"x || 1", api.ErrName, "x"},
		{"x ? y : z", api.ErrName, "x"},
		{"1 ? y : z", api.ErrName, "y"},
		{"0 ? y : z", api.ErrName, "z"},
		{"1 / 0 ? x : y", api.ErrRange, "1 / 0"},
		{"x + { y }", api.ErrName, "x"},
		{"{ y } + x", api.ErrConst, "{ y }"},
	} {
		mustFail(t, expr(t, x.text), x.want, x.part)
	}
}

func TestP11_1ShiftErrors(t *testing.T) {
	for _, sign := range []string{"<<", "<<<", ">>", ">>>"} {
		for _, by := range []string{"32", "( - 1 )", "LEAST", "MOST", "33"} {
			for _, n := range []string{"0", "1", "LEAST"} {
				text := n + " " + sign + " " + by
				mustFail(t, expr(t, text), api.ErrRange, text)
			}
		}
	}
	mustFail(t, expr(t, "1 << 31"), api.ErrRange, "1 << 31")
	mustFail(t, expr(t, "1 <<< 31"), api.ErrRange, "1 <<< 31")
	mustFail(t, expr(t, "- 3 << 30"), api.ErrRange, "( - 3 ) << 30")
	mustFail(t, expr(t, "x >> 32"), api.ErrName, "x")
}

// TestP11_1OtherKinds: the error is found before those of the parts.
func TestP11_1OtherKinds(t *testing.T) {
	for _, text := range []string{
		"& 1", "& x", "| x", "^ x", "~& x", "~| x", "~^ ( 1 / 0 )",
		"{ x }", "{ 1 , 2 }", "{ x { y } }", "{ 2 { 1 } }", "W [ 0 ]", "W [ x ]", "x [ 1 / 0 ]",
		"W [ 1 : 0 ]", "W [ x : y ]", "f ( 1 )", "f ( x )", "$signed ( 1 )", "$unsigned ( x )",
	} {
		mustFail(t, expr(t, text), api.ErrConst, text)
		mustFail(t, expr(t, "1 + ( "+text+" )"), api.ErrConst, text)
	}
}

func TestP11_1UnknownKindsAndOperators(t *testing.T) {
	var list []ast.Expr
	for _, kind := range []int{math.MinInt, -1, 0, 11, 12, math.MaxInt} {
		list = append(list, ast.Expr{Kind: kind, Text: "1", Args: []ast.Expr{{Kind: ast.Name, Text: "x"}}})
	}
	for _, sign := range []string{"", "+", "!!", "~^ ", "<", "\x00", "**"} {
		list = append(list, ast.Expr{Kind: ast.Un, Text: sign, Args: []ast.Expr{{Kind: ast.Name, Text: "x"}}})
	}
	for _, sign := range []string{"", "~", "!", "^~", "**", "===", "=", "&&&", "?"} {
		list = append(list, bin(ast.Expr{Kind: ast.Name, Text: "x"}, sign, ast.Expr{Kind: ast.Name, Text: "y"}))
	}
	for _, e := range list {
		e = sample.Placed(e)
		n, pos, err := konst.Eval(e, given())
		if n != 0 || pos != e.Pos || err != api.ErrConst {
			t.Errorf("P11.1: %v: %d, error %d at %v", e, n, err, pos)
		}
	}
}

// TestP11_1Texts: texts that are no literals, which the parser does not return.
func TestP11_1Texts(t *testing.T) {
	for text, want := range map[string]api.Errno{
		"": api.ErrForm, "x": api.ErrForm, "-1": api.ErrForm, "4'": api.ErrForm, "4'b": api.ErrForm, "4'b2": api.ErrForm,
		" 1": api.ErrForm, "0'h0": api.ErrForm, "129'h0": api.ErrForm, "_1": api.ErrForm, "1\xff": api.ErrForm,
		"2147483648": api.ErrRange, "99999999999999999999999999": api.ErrRange,
	} {
		e := sample.Placed(bin(value("1"), "+", value(text)))
		n, pos, err := konst.Eval(e, given())
		if n != 0 || err != want || pos != e.Args[1].Pos {
			t.Errorf("P11.1: %q: %d, error %d at %v; want %d", text, n, err, pos, want)
		}
	}
}

// TestP11_1WrongNumbersOfParts: a result is needed for them too.
func TestP11_1WrongNumbersOfParts(t *testing.T) {
	for _, kind := range []int{ast.Un, ast.Bin, ast.Cond} {
		for _, sign := range []string{"-", "+", "&&", "||", "/"} {
			for count := range 5 {
				e := ast.Expr{Kind: kind, Text: sign}
				for range count {
					e.Args = append(e.Args, value("1"))
				}
				mustSayTheSame(t, sample.Placed(e))
			}
		}
	}
}

// mustSayTheSame fails unless Eval returns the same twice, with zero results
// beside an error and a zero position without one.
func mustSayTheSame(t *testing.T, e ast.Expr) {
	t.Helper()
	n, pos, err := konst.Eval(e, given())
	m, again, other := konst.Eval(e, given())
	if n != m || pos != again || err != other {
		t.Errorf("P11.1: %v: %d, error %d at %v, and then %d, error %d at %v", e, n, err, pos, m, other, again)
	}
	if err != api.OK && n != 0 || err == api.OK && pos != (api.Pos{}) {
		t.Errorf("P11.1: %v: %d, error %d at %v", e, n, err, pos)
	}
}
