package konst_test

import (
	"math"
	"testing"

	"sluicegate/api"
	"sluicegate/ast"
	"sluicegate/konst"
)

// mustHaveValue fails unless Value(n) is a Num or the negation of one, without
// positions, whose value is want.
func mustHaveValue(t *testing.T, n, want int) {
	t.Helper()
	e := konst.Value(n)
	m, _, err := konst.Eval(e, konst.Env{})
	if m != want || err != api.OK {
		t.Errorf("P11.3: the value for %d is %d, error %d; want %d", n, m, err, want)
	}
	num := e
	if e.Kind == ast.Un && e.Text == "-" && len(e.Args) == 1 && e.Pos == (api.Pos{}) {
		num = e.Args[0]
	}
	if num.Kind != ast.Num || len(num.Args) != 0 || num.Pos != (api.Pos{}) {
		t.Errorf("P11.3: the expression for %d is %s", n, show(e))
	}
}

func TestP11_3Value(t *testing.T) {
	for shift := range 31 {
		for _, n := range []int{1<<shift - 1, 1 << shift, 1<<shift + 1} {
			mustHaveValue(t, n, n)
			mustHaveValue(t, -n, -n)
		}
	}
	for n := -1000; n <= 1000; n++ {
		mustHaveValue(t, n, n)
	}
}

func TestP11_3Ends(t *testing.T) {
	for n, want := range map[int]int{
		1<<31 - 1: 1<<31 - 1, 1<<31 - 2: 1<<31 - 2, 1 << 31: 1<<31 - 1, 1<<32 + 5: 1<<31 - 1, math.MaxInt: 1<<31 - 1,
		-1 << 31: -1 << 31, -1<<31 + 1: -1<<31 + 1, -1<<31 - 1: -1 << 31, -1<<32 + 5: -1 << 31, math.MinInt: -1 << 31,
	} {
		mustHaveValue(t, n, want)
	}
}

// TestP11_3IsReadBack: what a Num says is a literal.
func TestP11_3IsReadBack(t *testing.T) {
	for _, n := range []int{0, 1, -1, 1<<31 - 1, -1 << 31, -1<<31 + 1} {
		outer := bin(konst.Value(n), "==", expr(t, "x"))
		m, _, err := konst.Eval(outer, konst.Env{}.With("x", n))
		if m != 1 || err != api.OK {
			t.Errorf("P11.3: %d == %d is %d, error %d", n, n, m, err)
		}
	}
}

func TestP11_3ResultsShareNoMemory(t *testing.T) {
	first, second := konst.Value(-5), konst.Value(-5)
	first.Args[0].Text = "9"
	if n, _, err := konst.Eval(second, konst.Env{}); n != -5 || err != api.OK {
		t.Errorf("P11.3: %d, error %d", n, err)
	}
}
