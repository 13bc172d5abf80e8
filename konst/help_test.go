package konst_test

import (
	"fmt"
	"testing"

	"sluicegate/api"
	"sluicegate/ast"
	"sluicegate/konst"
	"sluicegate/sample"
)

// given are the names of the tests, with numbers.
func given() konst.Env {
	return konst.Env{}.With("W", 8).With("N", -5).With("ZERO", 0).
		With("LEAST", -1<<31).With("MOST", 1<<31-1).
		With("OVER", 1<<31).With("UNDER", -1<<31-1)
}

// expr returns the expression that a text is.
func expr(t *testing.T, text string) ast.Expr {
	t.Helper()
	e, ok := sample.Expr(text)
	if !ok {
		t.Fatalf("%q is no expression", text)
	}
	return e
}

// mustBe fails unless e has that value, and no error.
func mustBe(t *testing.T, e ast.Expr, want int) {
	t.Helper()
	n, pos, err := konst.Eval(e, given())
	if n != want || err != api.OK || pos != (api.Pos{}) {
		t.Errorf("P11.1: %s: %d, error %d at %v; want %d", sample.Text(e), n, err, pos, want)
	}
}

// mustFail fails unless e has that error, at a part with that text.
func mustFail(t *testing.T, e ast.Expr, want api.Errno, part string) {
	t.Helper()
	n, pos, err := konst.Eval(e, given())
	if n != 0 || err != want || sample.At(e, pos) != part {
		t.Errorf("P11.1: %s: %d, error %d at %q; want error %d at %q", sample.Text(e), n, err, sample.At(e, pos), want, part)
	}
}

// show writes a tree with its positions.
func show(e ast.Expr) string { return fmt.Sprintf("%+v", e) }

// value is an expression for a number, without a position.
func value(text string) ast.Expr { return ast.Expr{Kind: ast.Num, Text: text} }

func bin(a ast.Expr, sign string, b ast.Expr) ast.Expr {
	return ast.Expr{Kind: ast.Bin, Text: sign, Args: []ast.Expr{a, b}}
}
