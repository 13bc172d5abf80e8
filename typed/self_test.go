package typed_test

import (
	"testing"

	"sluicegate/api"
	"sluicegate/ast"
	"sluicegate/typed"
)

// mustBeSelf fails unless Self of a text is that width and sign.
func mustBeSelf(t *testing.T, text string, width int, signed bool) {
	t.Helper()
	w, s, pos, err := typed.Self(scope(), expr(t, text))
	if w != width || s != signed || pos != (api.Pos{}) || err != api.OK {
		t.Errorf("P12.1: %s: %d, %v, error %d at %v; want %d, %v", text, w, s, err, pos, width, signed)
	}
}

func TestP12_1SelfOfPrimaries(t *testing.T) {
	for _, x := range []struct {
		text   string
		width  int
		signed bool
	}{
		{"5", 32, true},
		{"'h5", 32, false},
		{"'sh5", 32, true},
		{"7'd5", 7, false},
		{"7'sd5", 7, true},
		{"1'b1", 1, false},
		{"128'sb1", 128, true},
		{"W", 32, true},
		{"LEAST", 32, true},
		{"a", 4, false},
		{"d", 8, true},
		{"z", 1, false},
		{"y", 1, true},
		{"u64", 64, false},
		{"s65", 65, true},
		{"s128", 128, true},
		{"d [ 3 ]", 1, false},
		{"d [ a ]", 1, false},
		{"y [ 0 ]", 1, false},
		{"m [ 2 ]", 8, false},
		{"n [ 2 ]", 5, true},
		{"n [ b ]", 5, true},
		{"one [ 0 ]", 128, false},
		{"d [ 5 : 2 ]", 4, false},
		{"d [ 7 : 0 ]", 8, false},
		{"d [ 3 : 3 ]", 1, false},
		{"d [ W + 1 : W - 1 ]", 3, false},
		{"s128 [ 127 : 0 ]", 128, false},
		{"{ d }", 8, false},
		{"{ c , d , y }", 13, false},
		{"{ u64 , s64 }", 128, false},
		{"{ 1 { d } }", 8, false},
		{"{ 3 { c , y } }", 15, false},
		{"{ 128 { y } }", 128, false},
		{"{ W { d } }", 24, false},
		{"$signed ( a )", 4, true},
		{"$signed ( d )", 8, true},
		{"$unsigned ( d )", 8, false},
		{"$signed ( a + b )", 8, true},
		{"twice ( b )", 4, false},
		{"same ( b )", 4, true},
		{"mix ( 1 , 2 )", 8, true},
		{"last ( 1 , 2 )", 4, false},
	} {
		mustBeSelf(t, x.text, x.width, x.signed)
	}
}

func TestP12_1SelfOfOperations(t *testing.T) {
	for _, sign := range []string{"-", "~"} {
		mustBeSelf(t, sign+" a", 4, false)
		mustBeSelf(t, sign+" d", 8, true)
		mustBeSelf(t, sign+" s65", 65, true)
		mustBeSelf(t, sign+" ( a < b )", 1, false)
	}
	for _, sign := range []string{"!", "&", "|", "^", "~&", "~|", "~^"} {
		mustBeSelf(t, sign+" a", 1, false)
		mustBeSelf(t, sign+" s128", 1, false)
		mustBeSelf(t, sign+" y", 1, false)
	}
	for _, sign := range []string{"<", "<=", ">", ">=", "==", "!=", "&&", "||"} {
		mustBeSelf(t, "c "+sign+" d", 1, false)
		mustBeSelf(t, "a "+sign+" u128", 1, false)
		mustBeSelf(t, "y "+sign+" y", 1, false)
	}
	for _, sign := range []string{"+", "-", "*", "/", "%", "&", "|", "^", "~^"} {
		mustBeSelf(t, "a "+sign+" b", 8, false)
		mustBeSelf(t, "b "+sign+" a", 8, false)
		mustBeSelf(t, "c "+sign+" d", 8, true)
		mustBeSelf(t, "c "+sign+" b", 8, false)
		mustBeSelf(t, "d "+sign+" a", 8, false)
		mustBeSelf(t, "c "+sign+" 1", 32, true)
		mustBeSelf(t, "a "+sign+" 1", 32, false)
		mustBeSelf(t, "s64 "+sign+" s65", 65, true)
		mustBeSelf(t, "y "+sign+" y", 1, true)
		mustBeSelf(t, "s128 "+sign+" u128", 128, false)
	}
	for _, sign := range []string{"<<", ">>", "<<<", ">>>"} {
		mustBeSelf(t, "a "+sign+" b", 4, false)
		mustBeSelf(t, "c "+sign+" b", 4, true)
		mustBeSelf(t, "b "+sign+" c", 8, false)
		mustBeSelf(t, "d "+sign+" u128", 8, true)
	}
	mustBeSelf(t, "z ? a : b", 8, false)
	mustBeSelf(t, "z ? d : c", 8, true)
	mustBeSelf(t, "s128 ? d : c", 8, true)
	mustBeSelf(t, "y ? d : a", 8, false)
	mustBeSelf(t, "y ? a : d", 8, false)
	mustBeSelf(t, "a + ( z ? c : s65 )", 65, false)
	mustBeSelf(t, "( c << 1 ) + - d", 8, true)
}

// TestP12_1HasNoLimit: the number of parts concerns only Resolve.
func TestP12_1HasNoLimit(t *testing.T) {
	e := expr(t, "s65")
	for range 1 << 16 {
		e = part(ast.Bin, "+", e, expr0)
	}
	if w, s, _, err := typed.Self(scope(), e); w != 65 || !s || err != api.OK {
		t.Errorf("P12.1: %d, %v, error %d", w, s, err)
	}
}

// expr0 is the number 0 in one signed bit.
var expr0 = part(ast.Num, "1'sb0")
