package ast_test

import (
	"reflect"
	"testing"

	"sluicegate/api"
	"sluicegate/ast"
)

// eachField visits all fields of a tree that are not trees themselves, with a
// function that changes the field and one that takes the change back.
func eachField(v reflect.Value, visit func(v reflect.Value, change, undo func())) {
	old := reflect.New(v.Type()).Elem()
	old.Set(v)
	undo := func() { v.Set(old) }
	switch v.Kind() {
	case reflect.Struct:
		if v.Type() == reflect.TypeFor[api.Pos]() {
			visit(v, func() { v.Set(reflect.ValueOf(api.Pos{File: 7, Line: 8, Col: 9})) }, undo)
			visit(v, func() { v.SetZero() }, undo)
			return
		}
		for i := range v.NumField() {
			eachField(v.Field(i), visit)
		}
	case reflect.Slice:
		visit(v, func() { v.Set(reflect.Append(v.Slice3(0, v.Len(), v.Len()), reflect.New(v.Type().Elem()).Elem())) }, undo)
		for i := range v.Len() {
			eachField(v.Index(i), visit)
		}
		if v.Len() > 0 {
			visit(v, func() { v.Set(v.Slice(0, v.Len()-1)) }, undo)
			visit(v, func() { v.Set(v.Slice(1, v.Len())) }, undo)
		}
	case reflect.Int:
		visit(v, func() { v.SetInt(v.Int() + 1) }, undo)
	case reflect.String:
		visit(v, func() { v.SetString(v.String() + "_") }, undo)
		visit(v, func() { v.SetString("") }, undo)
	case reflect.Bool:
		visit(v, func() { v.SetBool(!v.Bool()) }, undo)
	}
}

// TestP9_3EveryField changes one field of a tree after the other.
func TestP9_3EveryField(t *testing.T) {
	a, b := everything(), everything()
	count := 0
	eachField(reflect.ValueOf(&b).Elem(), func(v reflect.Value, change, undo func()) {
		before := v.IsZero()
		change()
		want := v.Type() == reflect.TypeFor[api.Pos]() || before && v.IsZero()
		if ast.Same(a, b) != want || ast.Same(b, a) != want {
			t.Errorf("P9.3: Same is %v after a change of a %v to %+v", !want, v.Type(), v.Interface())
		}
		undo()
		count++
	})
	if !ast.Same(a, b) || count < 1000 {
		t.Errorf("P9.3: Same is %v after %d changes", ast.Same(a, b), count)
	}
}

func TestP9_3Lists(t *testing.T) {
	m, n := ast.Module{Name: "m"}, ast.Module{Name: "n"}
	for _, x := range []struct {
		a, b []ast.Module
		want bool
	}{
		{nil, nil, true}, {nil, []ast.Module{}, true}, {[]ast.Module{}, nil, true},
		{nil, []ast.Module{m}, false}, {[]ast.Module{m}, nil, false}, {nil, []ast.Module{{}}, false},
		{[]ast.Module{m}, []ast.Module{m}, true}, {[]ast.Module{m}, []ast.Module{n}, false},
		{[]ast.Module{m, n}, []ast.Module{m, n}, true}, {[]ast.Module{m, n}, []ast.Module{n, m}, false},
		{[]ast.Module{m, n}, []ast.Module{m}, false}, {[]ast.Module{m}, []ast.Module{m, n}, false}, {[]ast.Module{m, n}, []ast.Module{n}, false},
	} {
		if got := ast.Same(x.a, x.b); got != x.want {
			t.Errorf("P9.3: Same(%v, %v) = %v", x.a, x.b, got)
		}
	}
}

// TestP9_3EmptyLists has an empty list in place of each nil one.
func TestP9_3EmptyLists(t *testing.T) {
	a, b := everything(), everything()
	count := 0
	fill := func(v reflect.Value, change, undo func()) {
		if v.Kind() == reflect.Slice && v.IsNil() {
			v.Set(reflect.MakeSlice(v.Type(), 0, 3))
			count++
		}
	}
	eachField(reflect.ValueOf(&b).Elem(), fill)
	if !ast.Same(a, b) || !ast.Same(b, a) || ast.Text(a...) != ast.Text(b...) || count < 20 {
		t.Errorf("P9.3: Same is %v with %d empty lists", ast.Same(a, b), count)
	}
}

// TestP9_3PositionsOnly compares modules of which only one has positions.
func TestP9_3PositionsOnly(t *testing.T) {
	a, b := everything(), everything()
	eachField(reflect.ValueOf(&b).Elem(), func(v reflect.Value, change, undo func()) {
		if v.Type() == reflect.TypeFor[api.Pos]() {
			v.SetZero()
		}
	})
	if b[0].Pos != (api.Pos{}) || a[0].Pos == (api.Pos{}) || !ast.Same(a, b) || !ast.Same(b, a) || ast.Text(a...) != ast.Text(b...) {
		t.Errorf("P9.3: trees with and without positions differ")
	}
}

// TestP9_3Deep compares trees of a great depth.
func TestP9_3Deep(t *testing.T) {
	tree := func(depth int, isLeft bool) []ast.Module {
		return []ast.Module{moduleOf(ast.Item{Kind: ast.Assign, Exprs: []ast.Expr{name("y"), chain(depth, isLeft)}})}
	}
	const depth = 1 << 14
	for _, isLeft := range []bool{true, false} {
		if !ast.Same(tree(depth, isLeft), tree(depth, isLeft)) || ast.Same(tree(depth, isLeft), tree(depth, !isLeft)) || ast.Same(tree(depth, isLeft), tree(depth+1, isLeft)) {
			t.Errorf("P9.3: Same of deep trees")
		}
	}
}
