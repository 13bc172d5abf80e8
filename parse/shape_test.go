package parse_test

import (
	"strings"
	"testing"

	"sluicegate/api"
	"sluicegate/ast"
	"sluicegate/lex"
	"sluicegate/parse"
	"sluicegate/pre"
)

// at returns the position of the n-th token, counted from 1.
func at(n int) api.Pos { return posOf(n - 1) }

func nameAt(n int, text string) ast.Expr {
	return ast.Expr{Kind: ast.Name, Pos: at(n), Text: text}
}

func numAt(n int, text string) ast.Expr {
	return ast.Expr{Kind: ast.Num, Pos: at(n), Text: text}
}

// exprAt returns an expression of any kind.
func exprAt(n, kind int, text string, args ...ast.Expr) ast.Expr {
	return ast.Expr{Kind: kind, Pos: at(n), Text: text, Args: args}
}

// mustBe fails unless the text is a module with these items, of which the first
// one begins at its sixth token.
func mustBe(t *testing.T, text string, want ...ast.Item) {
	t.Helper()
	list := mustRead(t, "P10.1", "module m ( ) ; "+text+" endmodule")
	if got, want := show(list), show([]ast.Module{{Name: "m", Pos: at(1), Items: want}}); got != want {
		t.Errorf("P10.1: %s: the tree is\n%s\nnot\n%s", text, got, want)
	}
}

func TestP10_1Heads(t *testing.T) {
	list := mustRead(t, "P10.1", "module m # ( parameter W = 4 , parameter V = W ) ( input a , input signed [ 3 : 0 ] b , output c , output reg signed [ W : 0 ] d = 1 , output reg e ) ; endmodule module n ( ) ; wire w ; endmodule")
	param := func(n int, text string, value ast.Expr) ast.Item {
		return ast.Item{Kind: ast.Param, Pos: at(n), Text: text, Type: "parameter", Exprs: []ast.Expr{value}}
	}
	want := []ast.Module{
		{
			Name: "m", Pos: at(1), Params: []ast.Item{param(5, "W", numAt(8, "4")), param(10, "V", nameAt(13, "W"))},
			Ports: []ast.Item{
				{Kind: ast.Net, Pos: at(16), Text: "a", Type: "input"},
				{Kind: ast.Net, Pos: at(19), Text: "b", Type: "input", Signed: true, Exprs: []ast.Expr{numAt(22, "3"), numAt(24, "0")}},
				{Kind: ast.Net, Pos: at(28), Text: "c", Type: "output"},
				{Kind: ast.Net, Pos: at(31), Text: "d", Type: "output reg", Signed: true, Exprs: []ast.Expr{nameAt(35, "W"), numAt(37, "0")}, First: []ast.Expr{numAt(41, "1")}},
				{Kind: ast.Net, Pos: at(43), Text: "e", Type: "output reg"},
			},
		},
		{Name: "n", Pos: at(49), Items: []ast.Item{{Kind: ast.Net, Pos: at(54), Text: "w", Type: "wire"}}},
	}
	if show(list) != show(want) {
		t.Errorf("P10.1: the tree is\n%s\nnot\n%s", show(list), show(want))
	}
}

func TestP10_1Declarations(t *testing.T) {
	for text, x := range map[string]ast.Item{
		"wire a ;":                           {Kind: ast.Net, Text: "a", Type: "wire"},
		"wire signed [ 3 : 0 ] a ;":          {Kind: ast.Net, Text: "a", Type: "wire", Signed: true, Exprs: []ast.Expr{numAt(9, "3"), numAt(11, "0")}},
		"reg a ;":                            {Kind: ast.Net, Text: "a", Type: "reg"},
		"reg signed a = b ;":                 {Kind: ast.Net, Text: "a", Type: "reg", Signed: true, First: []ast.Expr{nameAt(10, "b")}},
		"reg [ 3 : 0 ] a = b ;":              {Kind: ast.Net, Text: "a", Type: "reg", Exprs: []ast.Expr{numAt(8, "3"), numAt(10, "0")}, First: []ast.Expr{nameAt(14, "b")}},
		"reg signed [ 3 : 0 ] a [ 5 : 7 ] ;": {Kind: ast.Net, Text: "a", Type: "reg", Signed: true, Exprs: []ast.Expr{numAt(9, "3"), numAt(11, "0"), numAt(15, "5"), numAt(17, "7")}},
		"integer i ;":                        {Kind: ast.Net, Text: "i", Type: "integer", Signed: true},
		"localparam P = 1 ;":                 {Kind: ast.Param, Text: "P", Type: "localparam", Exprs: []ast.Expr{numAt(9, "1")}},
		"genvar g ;":                         {Kind: ast.Genvar, Text: "g"},
		"assign y [ 1 ] = a ;":               {Kind: ast.Assign, Exprs: []ast.Expr{exprAt(7, ast.Index, "y", numAt(9, "1")), nameAt(12, "a")}},
		"always @ * ;":                       {Kind: ast.Comb, Body: []ast.Stmt{{Kind: ast.Null, Pos: at(9)}}},
		"always @ ( * ) ;":                   {Kind: ast.Comb, Body: []ast.Stmt{{Kind: ast.Null, Pos: at(11)}}},
		"always @ ( posedge clk ) ;":         {Kind: ast.Clocked, Text: "clk", Body: []ast.Stmt{{Kind: ast.Null, Pos: at(12)}}},
		"n u ( ) ;":                          {Kind: ast.Inst, Text: "u", Type: "n"},
		"n # ( ) u ( ) ;":                    {Kind: ast.Inst, Text: "u", Type: "n"},
		"n # ( . W ( 4 ) ) u ( . a ( ) , . b ( c ) ) ;": {
			Kind: ast.Inst, Text: "u", Type: "n", Params: []ast.Conn{{Name: "W", Pos: at(9), Exprs: []ast.Expr{numAt(12, "4")}}},
			Ports: []ast.Conn{{Name: "a", Pos: at(17)}, {Name: "b", Pos: at(22), Exprs: []ast.Expr{nameAt(25, "c")}}},
		},
		"function f ; ; endfunction": {Kind: ast.Func, Text: "f", Body: []ast.Stmt{{Kind: ast.Null, Pos: at(9)}}},
		"function signed [ 1 : 0 ] f ; input signed a ; reg [ 2 : 0 ] b ; integer i ; ; endfunction": {
			Kind: ast.Func, Text: "f", Signed: true, Exprs: []ast.Expr{numAt(9, "1"), numAt(11, "0")}, Body: []ast.Stmt{{Kind: ast.Null, Pos: at(30)}},
			Items: []ast.Item{
				{Kind: ast.Net, Pos: at(15), Text: "a", Type: "input", Signed: true},
				{Kind: ast.Net, Pos: at(19), Text: "b", Type: "reg", Exprs: []ast.Expr{numAt(21, "2"), numAt(23, "0")}},
				{Kind: ast.Net, Pos: at(27), Text: "i", Type: "integer", Signed: true},
			},
		},
	} {
		x.Pos = at(6)
		mustBe(t, text, x)
	}
}

func TestP10_1GeneratedItems(t *testing.T) {
	wire := func(n int, text string) ast.Item {
		return ast.Item{Kind: ast.Net, Pos: at(n), Text: text, Type: "wire"}
	}
	block := func(n int, text string, items ...ast.Item) []ast.Item {
		return []ast.Item{{Kind: ast.GenBlock, Pos: at(n), Text: text, Items: items}}
	}
	mustBe(t, "if ( a ) begin : g end", ast.Item{Kind: ast.GenIf, Pos: at(6), Exprs: []ast.Expr{nameAt(8, "a")}, Items: block(10, "g")})
	mustBe(t, "if ( a ) begin : g wire b ; wire c ; end else begin : h wire d ; end", ast.Item{
		Kind: ast.GenIf, Pos: at(6), Exprs: []ast.Expr{nameAt(8, "a")}, Items: block(10, "g", wire(13, "b"), wire(16, "c")), Else: block(21, "h", wire(24, "d")),
	})
	mustBe(t, "for ( i = 0 ; b ; i = c ) begin : g wire d ; end", ast.Item{
		Kind: ast.GenFor, Pos: at(6), Text: "i", Exprs: []ast.Expr{numAt(10, "0"), nameAt(12, "b"), nameAt(16, "c")}, Items: block(18, "g", wire(21, "d")),
	})
	mustBe(t, "generate endgenerate")
	mustBe(t, "generate wire a ; endgenerate wire b ;", wire(7, "a"), wire(11, "b"))
	mustBe(t, "wire a ; generate wire b ; wire c ; endgenerate", wire(6, "a"), wire(10, "b"), wire(13, "c"))
	mustBe(t, "generate generate wire a ; endgenerate wire b ; generate endgenerate endgenerate", wire(8, "a"), wire(12, "b"))
	mustBe(t, "if ( a ) begin : g generate wire b ; endgenerate wire c ; end", ast.Item{
		Kind: ast.GenIf, Pos: at(6), Exprs: []ast.Expr{nameAt(8, "a")}, Items: block(10, "g", wire(14, "b"), wire(18, "c")),
	})
}

// mustBeStmt fails unless the text is this statement, whose first token is the
// ninth one.
func mustBeStmt(t *testing.T, text string, want ast.Stmt) {
	t.Helper()
	mustBe(t, "always @ * "+text, ast.Item{Kind: ast.Comb, Pos: at(6), Body: []ast.Stmt{want}})
}

func TestP10_1Statements(t *testing.T) {
	null := func(n int) ast.Stmt { return ast.Stmt{Kind: ast.Null, Pos: at(n)} }
	none := ast.Stmt{Kind: ast.Null}
	a, b := []ast.Expr{nameAt(11, "a")}, []ast.Expr{nameAt(15, "b")}
	set := func(n int) ast.Stmt {
		return ast.Stmt{Kind: ast.Set, Pos: at(n), Exprs: []ast.Expr{nameAt(n, "y"), nameAt(n+2, "z")}}
	}
	for text, s := range map[string]ast.Stmt{
		";":                          {Kind: ast.Null},
		"begin end":                  {Kind: ast.Block},
		"begin ; y = z ; end":        {Kind: ast.Block, Body: []ast.Stmt{null(10), set(11)}},
		"y = z ;":                    set(9),
		"y <= z ;":                   {Kind: ast.Later, Exprs: []ast.Expr{nameAt(9, "y"), nameAt(11, "z")}},
		"y <= z <= x ;":              {Kind: ast.Later, Exprs: []ast.Expr{nameAt(9, "y"), exprAt(11, ast.Bin, "<=", nameAt(11, "z"), nameAt(13, "x"))}},
		"y [ z ] = x ;":              {Kind: ast.Set, Exprs: []ast.Expr{exprAt(9, ast.Index, "y", nameAt(11, "z")), nameAt(14, "x")}},
		"y [ 3 : z ] = x ;":          {Kind: ast.Set, Exprs: []ast.Expr{exprAt(9, ast.Range, "y", numAt(11, "3"), nameAt(13, "z")), nameAt(16, "x")}},
		"if ( a ) ;":                 {Kind: ast.If, Exprs: a, Body: []ast.Stmt{null(13), none}},
		"if ( a ) ; else ;":          {Kind: ast.If, Exprs: a, Body: []ast.Stmt{null(13), null(15)}},
		"if ( a ) ; else y = z ;":    {Kind: ast.If, Exprs: a, Body: []ast.Stmt{null(13), set(15)}},
		"if ( a ) if ( b ) ; else ;": {Kind: ast.If, Exprs: a, Body: []ast.Stmt{{Kind: ast.If, Pos: at(13), Exprs: b, Body: []ast.Stmt{null(17), null(19)}}, none}},
		"if ( a ) if ( b ) ; else y = z ; else ;": {
			Kind: ast.If, Exprs: a, Body: []ast.Stmt{{Kind: ast.If, Pos: at(13), Exprs: b, Body: []ast.Stmt{null(17), set(19)}}, null(24)},
		},
		"if ( a ) begin if ( c ) ; end else ;": {
			Kind: ast.If, Exprs: a,
			Body: []ast.Stmt{{Kind: ast.Block, Pos: at(13), Body: []ast.Stmt{{Kind: ast.If, Pos: at(14), Exprs: []ast.Expr{nameAt(16, "c")}, Body: []ast.Stmt{null(18), none}}}}, null(21)},
		},
		"case ( a ) 0 , b : ; default : y = z ; endcase": {
			Kind: ast.Case, Exprs: a, Arms: []ast.Arm{{Exprs: []ast.Expr{numAt(13, "0"), nameAt(15, "b")}, Body: null(17)}, {Body: set(20)}},
		},
		"case ( a ) c ? d : e : p : assert ( f ) ; endcase": {
			Kind: ast.Case, Exprs: a, Arms: []ast.Arm{{
				Exprs: []ast.Expr{exprAt(13, ast.Cond, "", nameAt(13, "c"), nameAt(15, "d"), nameAt(17, "e"))},
				Body:  ast.Stmt{Kind: ast.Assert, Pos: at(19), Text: "p", Exprs: []ast.Expr{nameAt(23, "f")}},
			}},
		},
		"for ( i = 0 ; c ; i = d ) ;": {Kind: ast.For, Text: "i", Exprs: []ast.Expr{numAt(13, "0"), nameAt(15, "c"), nameAt(19, "d")}, Body: []ast.Stmt{null(21)}},
		"assert ( a ) ;":              {Kind: ast.Assert, Exprs: a},
		"p : assert ( a ) ;":          {Kind: ast.Assert, Text: "p", Exprs: []ast.Expr{nameAt(13, "a")}},
	} {
		s.Pos = at(9)
		mustBeStmt(t, text, s)
	}
}

// TestP10_1Expressions has all kinds of expressions with the positions of their
// parts, which begin at the ninth token.
func TestP10_1Expressions(t *testing.T) {
	for text, e := range map[string]ast.Expr{
		"a":                   nameAt(9, "a"),
		"4'b1_0":              numAt(9, "4'b1_0"),
		"a [ 1 ]":             exprAt(9, ast.Index, "a", numAt(11, "1")),
		"a [ b : 0 ]":         exprAt(9, ast.Range, "a", nameAt(11, "b"), numAt(13, "0")),
		"f ( a , 1 )":         exprAt(9, ast.Call, "f", nameAt(11, "a"), numAt(13, "1")),
		"$signed ( a )":       exprAt(9, ast.Call, "$signed", nameAt(11, "a")),
		"$unsigned ( a , b )": exprAt(9, ast.Call, "$unsigned", nameAt(11, "a"), nameAt(13, "b")),
		"{ a }":               exprAt(9, ast.Cat, "", nameAt(10, "a")),
		"{ a , b }":           exprAt(9, ast.Cat, "", nameAt(10, "a"), nameAt(12, "b")),
		"{ 2 { a , b } }":     exprAt(9, ast.Rep, "", numAt(10, "2"), nameAt(12, "a"), nameAt(14, "b")),
		"a + b":               exprAt(9, ast.Bin, "+", nameAt(9, "a"), nameAt(11, "b")),
		"a ^~ b":              exprAt(9, ast.Bin, "~^", nameAt(9, "a"), nameAt(11, "b")),
		"a + b * c":           exprAt(9, ast.Bin, "+", nameAt(9, "a"), exprAt(11, ast.Bin, "*", nameAt(11, "b"), nameAt(13, "c"))),
		"a * b + c":           exprAt(9, ast.Bin, "+", exprAt(9, ast.Bin, "*", nameAt(9, "a"), nameAt(11, "b")), nameAt(13, "c")),
		"a ? b : c":           exprAt(9, ast.Cond, "", nameAt(9, "a"), nameAt(11, "b"), nameAt(13, "c")),
		"- a":                 exprAt(9, ast.Un, "-", nameAt(10, "a")),
		"^~ a":                exprAt(9, ast.Un, "~^", nameAt(10, "a")),
		"- a + b":             exprAt(9, ast.Bin, "+", exprAt(9, ast.Un, "-", nameAt(10, "a")), nameAt(12, "b")),
		"+ a":                 nameAt(10, "a"),
		"- + a":               exprAt(9, ast.Un, "-", nameAt(11, "a")),
		"( a )":               nameAt(10, "a"),
		"( ( a + b ) )":       exprAt(11, ast.Bin, "+", nameAt(11, "a"), nameAt(13, "b")),
		"( a ) + b":           exprAt(9, ast.Bin, "+", nameAt(10, "a"), nameAt(13, "b")),
		"( a ) ? b : c":       exprAt(9, ast.Cond, "", nameAt(10, "a"), nameAt(13, "b"), nameAt(15, "c")),
		"- ( a )":             exprAt(9, ast.Un, "-", nameAt(11, "a")),
		"( a + b ) * c":       exprAt(9, ast.Bin, "*", exprAt(10, ast.Bin, "+", nameAt(10, "a"), nameAt(12, "b")), nameAt(15, "c")),
	} {
		mustBe(t, "assign y = "+text+" ;", ast.Item{Kind: ast.Assign, Pos: at(6), Exprs: []ast.Expr{nameAt(7, "y"), e}})
	}
}

// TestP10_1Lines reads a source of several lines, in which positions are those
// of the file.
func TestP10_1Lines(t *testing.T) {
	text := "module m (input a,\n  output y);\n\tassign y =\n    ~a;\nendmodule\n\nmodule\n  n ();\nendmodule"
	tokens, _, err := lex.Lex(pre.Piece{Text: text, Pos: api.Pos{File: 4, Line: 1, Col: 1}})
	list, pos, wrong := parse.Parse(tokens...)
	if err != api.OK || wrong != api.OK || len(list) != 2 {
		t.Fatalf("P10.1: error %d at %v", wrong, pos)
	}
	m, n := list[0], list[1]
	for _, x := range []struct {
		got       api.Pos
		line, col int
	}{
		{m.Pos, 1, 1}, {m.Ports[0].Pos, 1, 11}, {m.Ports[1].Pos, 2, 3}, {m.Items[0].Pos, 3, 2}, {m.Items[0].Exprs[0].Pos, 3, 9},
		{m.Items[0].Exprs[1].Pos, 4, 5}, {m.Items[0].Exprs[1].Args[0].Pos, 4, 6}, {n.Pos, 7, 1},
	} {
		if x.got != (api.Pos{File: 4, Line: x.line, Col: x.col}) {
			t.Errorf("P10.1: %v is not at %d:%d", x.got, x.line, x.col)
		}
	}
}

// TestP10_1DanglingElse writes a first branch that ends with an If without an
// else, which leads to a block.
func TestP10_1DanglingElse(t *testing.T) {
	set := ast.Stmt{Kind: ast.Set, Exprs: []ast.Expr{{Kind: ast.Name, Text: "y"}, {Kind: ast.Name, Text: "a"}}}
	condition := []ast.Expr{{Kind: ast.Name, Text: "c"}}
	inner := ast.Stmt{Kind: ast.If, Exprs: condition, Body: []ast.Stmt{set, {Kind: ast.Null}}}
	outer := func(first ast.Stmt) []ast.Module {
		s := ast.Stmt{Kind: ast.If, Exprs: condition, Body: []ast.Stmt{first, set}}
		return []ast.Module{{Name: "m", Items: []ast.Item{{Kind: ast.Comb, Body: []ast.Stmt{s}}}}}
	}
	want := outer(ast.Stmt{Kind: ast.Block, Body: []ast.Stmt{inner}})
	for _, list := range [][]ast.Module{outer(inner), want} {
		text := ast.Text(list...)
		if got := mustRead(t, "P10.1", text); !ast.Same(got, want) {
			t.Errorf("P10.1: the tree of %s has another meaning", strings.Join(strings.Fields(text), " "))
		}
	}
}
