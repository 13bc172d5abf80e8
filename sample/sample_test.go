package sample_test

import (
	"testing"

	"sluicegate/api"
	"sluicegate/ast"
	"sluicegate/sample"
)

func TestExprHasAPositionForEachPart(t *testing.T) {
	e, ok := sample.Expr("a + - b [ 1 ]")
	if !ok || sample.Text(e) != "a + ( - b [ 1 ] )" {
		t.Fatalf("%v, %q", ok, sample.Text(e))
	}
	minus := e.Args[1]
	for _, x := range []struct {
		part ast.Expr
		want string
	}{
		{e, "a + ( - b [ 1 ] )"},
		{e.Args[0], "a"},
		{minus, "- b [ 1 ]"},
		{minus.Args[0], "b [ 1 ]"},
		{minus.Args[0].Args[0], "1"},
	} {
		if text := sample.At(e, x.part.Pos); text != x.want {
			t.Errorf("at %v: %q, not %q", x.part.Pos, text, x.want)
		}
	}
	if text := sample.At(e, api.Pos{}); text != "" {
		t.Errorf("at no position: %q", text)
	}
}

func TestExprRejectsWhatIsNotOne(t *testing.T) {
	for _, text := range []string{"", "a +", "a ; assign z = b", "\"", "a ; endmodule module n ( )"} {
		if e, ok := sample.Expr(text); ok || e.Kind != 0 {
			t.Errorf("%q: %v", text, ok)
		}
	}
}

func TestPlacedLeavesItsArgumentAlone(t *testing.T) {
	e := ast.Expr{Kind: ast.Un, Text: "-", Args: []ast.Expr{{Kind: ast.Num, Text: "1"}}}
	first := sample.Placed(e)
	if e.Pos != (api.Pos{}) || e.Args[0].Pos != (api.Pos{}) || first.Args[0].Pos == first.Pos {
		t.Errorf("%v, %v", e, first)
	}
}

func TestModulesHaveThePositionsOfTheText(t *testing.T) {
	list, ok := sample.Modules("module m ();\n wire w; endmodule module n (); endmodule")
	if !ok || len(list) != 2 || list[1].Name != "n" || list[0].Items[0].Pos != (api.Pos{File: 1, Line: 2, Col: 2}) {
		t.Errorf("%v, %v", list, ok)
	}
	for _, text := range []string{"module", "\"", "module m (); endmodule m"} {
		if list, ok := sample.Modules(text); ok || len(list) > 0 {
			t.Errorf("%q: %v, %v", text, list, ok)
		}
	}
}
