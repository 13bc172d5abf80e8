package konst_test

import (
	"math"
	"strconv"
	"testing"

	"sluicegate/api"
	"sluicegate/ast"
	"sluicegate/konst"
)

// mustFind fails unless v has exactly these names with these numbers, of the
// names of the tests.
func mustFind(t *testing.T, v konst.Env, want map[string]int) {
	t.Helper()
	if v.Len() != len(want) {
		t.Errorf("P11.2: %d names, not %d", v.Len(), len(want))
	}
	for _, name := range []string{"", "a", "b", "c", "A", "a ", "\xff", "no"} {
		n, found := v.Find(name)
		m, is := want[name]
		if n != m || found != is {
			t.Errorf("P11.2: %q: %d, %v; want %d, %v", name, n, found, m, is)
		}
	}
}

func TestP11_2Empty(t *testing.T) {
	mustFind(t, konst.Env{}, nil)
}

func TestP11_2With(t *testing.T) {
	one := konst.Env{}.With("a", 1)
	mustFind(t, one, map[string]int{"a": 1})
	two := one.With("b", -2)
	three := two.With("", 0).With("A", math.MaxInt).With("\xff", math.MinInt)
	mustFind(t, two, map[string]int{"a": 1, "b": -2})
	mustFind(t, three, map[string]int{"a": 1, "b": -2, "": 0, "A": math.MaxInt, "\xff": math.MinInt})
	mustFind(t, one, map[string]int{"a": 1})
}

func TestP11_2ASecondNumber(t *testing.T) {
	one := konst.Env{}.With("a", 1).With("b", 2)
	two := one.With("a", 3)
	mustFind(t, two, map[string]int{"a": 3, "b": 2})
	mustFind(t, one, map[string]int{"a": 1, "b": 2})
	mustFind(t, two.With("a", 0), map[string]int{"a": 0, "b": 2})
	mustFind(t, one.With("a", 1), map[string]int{"a": 1, "b": 2})
}

// TestP11_2Branches: envs that come from the same one do not see each other.
func TestP11_2Branches(t *testing.T) {
	root := konst.Env{}.With("a", 1)
	left := root.With("b", 2)
	right := root.With("c", 3)
	other := root.With("b", 4)
	mustFind(t, left, map[string]int{"a": 1, "b": 2})
	mustFind(t, right, map[string]int{"a": 1, "c": 3})
	mustFind(t, other, map[string]int{"a": 1, "b": 4})
	mustFind(t, root, map[string]int{"a": 1})
}

func TestP11_2Many(t *testing.T) {
	const count = 1000
	var envs []konst.Env
	v := konst.Env{}
	for i := range count {
		envs = append(envs, v)
		v = v.With("n"+strconv.Itoa((i*7)%count), i)
	}
	for i := range count {
		name := "n" + strconv.Itoa((i*7)%count)
		if n, found := v.Find(name); n != i || !found {
			t.Errorf("P11.2: %s: %d, %v; want %d", name, n, found, i)
		}
		if n, found := envs[i].Find(name); n != 0 || found || envs[i].Len() != i {
			t.Errorf("P11.2: %s: %d, %v before it had a number; %d names", name, n, found, envs[i].Len())
		}
	}
}

// TestP11_2Eval: what Find says is what Eval takes.
func TestP11_2Eval(t *testing.T) {
	name := ast.Expr{Kind: ast.Name, Text: "a"}
	v := konst.Env{}
	for _, want := range []int{5, -7, 5, 0} {
		v = v.With("a", want)
		if n, _, err := konst.Eval(name, v); n != want || err != api.OK {
			t.Errorf("P11.2: %d, error %d; want %d", n, err, want)
		}
	}
	if n, _, err := konst.Eval(name, konst.Env{}.With("b", 1)); n != 0 || err != api.ErrName {
		t.Errorf("P11.2: a name without a number: %d, error %d", n, err)
	}
}
