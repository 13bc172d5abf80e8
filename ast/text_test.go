package ast_test

import (
	"strings"
	"testing"

	"sluicegate/ast"
)

func TestP9_1Modules(t *testing.T) {
	mustWrite(t, "")
	mustWrite(t, "module m ( ) ; endmodule", ast.Module{Name: "m"})
	mustWrite(t, "module m ( ) ; endmodule module n ( ) ; endmodule module m ( ) ; endmodule", ast.Module{Name: "m"}, ast.Module{Name: "n"}, ast.Module{Name: "m"})
	mustWrite(t, "module m # ( parameter W = 8 ) ( ) ; endmodule", ast.Module{Name: "m", Params: []ast.Item{param("parameter", "W", "8")}})
	mustWrite(t, "module m # ( parameter W = 8 , parameter V = W , parameter U = 1 ) ( ) ; endmodule",
		ast.Module{Name: "m", Params: []ast.Item{param("parameter", "W", "8"), param("parameter", "V", "W"), param("parameter", "U", "1")}})
	mustWrite(t, "module m ( input a ) ; endmodule", ast.Module{Name: "m", Ports: []ast.Item{net("input", "a")}})
	mustWrite(t, "module m ( input a , output b , output reg c ) ; endmodule",
		ast.Module{Name: "m", Ports: []ast.Item{net("input", "a"), net("output", "b"), net("output reg", "c")}})
	mustWrite(t, "module m ( input signed a , output [ 7 : 0 ] b , output reg signed [ W : 0 ] c , output reg [ 1 : 0 ] d = 2 , output reg e = - 1 , input [ 1 : 0 ] f ) ; endmodule",
		ast.Module{Name: "m", Ports: []ast.Item{
			signed(net("input", "a")), net("output", "b", "7", "0"), signed(net("output reg", "c", "W", "0")),
			starting(net("output reg", "d", "1", "0"), num("2")), starting(net("output reg", "e"), un("-", num("1"))), net("input", "f", "1", "0"),
		}})
	mustWrite(t, "module m # ( parameter W = 8 ) ( input clk ) ; wire a ; wire b ; endmodule",
		ast.Module{Name: "m", Params: []ast.Item{param("parameter", "W", "8")}, Ports: []ast.Item{net("input", "clk")}, Items: []ast.Item{net("wire", "a"), net("wire", "b")}})
}

func TestP9_1Declarations(t *testing.T) {
	for want, x := range map[string]ast.Item{
		"wire a ;":                                net("wire", "a"),
		"wire signed a ;":                         signed(net("wire", "a")),
		"wire [ W : 0 ] a ;":                      net("wire", "a", "W", "0"),
		"wire signed [ 3 : 0 ] a ;":               signed(net("wire", "a", "3", "0")),
		"reg a ;":                                 net("reg", "a"),
		"reg signed [ 3 : 0 ] a ;":                signed(net("reg", "a", "3", "0")),
		"reg a = b ;":                             starting(net("reg", "a"), name("b")),
		"reg signed [ 3 : 0 ] a = b ? 1 : 2 ;":    starting(signed(net("reg", "a", "3", "0")), cond(name("b"), num("1"), num("2"))),
		"reg [ 3 : 0 ] m [ 0 : 15 ] ;":            net("reg", "m", "3", "0", "0", "15"),
		"reg signed [ W : V ] m [ F : 9 ] ;":      signed(net("reg", "m", "W", "V", "F", "9")),
		"integer i ;":                             signed(net("integer", "i")),
		"localparam P = 4 ;":                      param("localparam", "P", "4"),
		"genvar g ;":                              {Kind: ast.Genvar, Text: "g"},
		"assign y = a ;":                          {Kind: ast.Assign, Exprs: exprs("y", "a")},
		"assign y [ i ] = a ;":                    {Kind: ast.Assign, Exprs: []ast.Expr{part(ast.Index, "y", name("i")), name("a")}},
		"assign y [ 3 : 1 ] = { a , b } ;":        {Kind: ast.Assign, Exprs: []ast.Expr{part(ast.Range, "y", exprs("3", "1")...), part(ast.Cat, "", exprs("a", "b")...)}},
		"always @ * ;":                            {Kind: ast.Comb, Body: []ast.Stmt{{Kind: ast.Null}}},
		"always @ ( posedge clk ) y = a ;":        {Kind: ast.Clocked, Text: "clk", Body: []ast.Stmt{set("y", "a")}},
		"always @ ( posedge c ) begin ; ; end":    {Kind: ast.Clocked, Text: "c", Body: []ast.Stmt{block(ast.Stmt{Kind: ast.Null}, ast.Stmt{Kind: ast.Null})}},
		"always @ * begin y = a ; y = b ; end":    {Kind: ast.Comb, Body: []ast.Stmt{block(set("y", "a"), set("y", "b"))}},
		"for ( i = 0 ; c ; i = n ) begin : g end": {Kind: ast.GenFor, Text: "i", Exprs: exprs("0", "c", "n"), Items: genBlock("g")},
	} {
		mustWriteItem(t, want, x)
	}
}

func TestP9_1Functions(t *testing.T) {
	body := []ast.Stmt{set("f", "a")}
	for want, x := range map[string]ast.Item{
		"function f ; f = a ; endfunction":                  {Text: "f", Body: body},
		"function signed f ; f = a ; endfunction":           {Text: "f", Signed: true, Body: body},
		"function [ 7 : 0 ] f ; f = a ; endfunction":        {Text: "f", Exprs: exprs("7", "0"), Body: body},
		"function signed [ 7 : 0 ] f ; f = a ; endfunction": {Text: "f", Signed: true, Exprs: exprs("7", "0"), Body: body},
		"function f ; input a ; f = a ; endfunction":        {Text: "f", Items: []ast.Item{net("input", "a")}, Body: body},
		"function f ; reg signed [ 1 : 0 ] r ; integer i ; input signed [ W : 0 ] a ; reg s ; begin f = a ; end endfunction": {
			Text:  "f",
			Items: []ast.Item{signed(net("reg", "r", "1", "0")), signed(net("integer", "i")), signed(net("input", "a", "W", "0")), net("reg", "s")},
			Body:  []ast.Stmt{block(body...)},
		},
	} {
		x.Kind = ast.Func
		mustWriteItem(t, want, x)
	}
}

func TestP9_1Instances(t *testing.T) {
	for want, x := range map[string]ast.Item{
		"n u ( ) ;":                 {Type: "n", Text: "u"},
		"n u ( . a ( ) ) ;":         {Type: "n", Text: "u", Ports: []ast.Conn{conn("a")}},
		"n u ( . a ( x ) ) ;":       {Type: "n", Text: "u", Ports: []ast.Conn{conn("a", name("x"))}},
		"n # ( . W ( 4 ) ) u ( ) ;": {Type: "n", Text: "u", Params: []ast.Conn{conn("W", num("4"))}},
		"n # ( . W ( ) , . V ( a ? b : c ) ) u ( . a ( - x ) , . b ( ) , . c ( { x } ) ) ;": {
			Type: "n", Text: "u", Params: []ast.Conn{conn("W"), conn("V", cond(name("a"), name("b"), name("c")))},
			Ports: []ast.Conn{conn("a", un("-", name("x"))), conn("b"), conn("c", part(ast.Cat, "", name("x")))},
		},
	} {
		x.Kind = ast.Inst
		mustWriteItem(t, want, x)
	}
}

func TestP9_1GeneratedItems(t *testing.T) {
	a, b := net("wire", "a"), net("wire", "b")
	inner := ast.Item{Kind: ast.GenIf, Exprs: exprs("d"), Items: genBlock("h", a)}
	for want, x := range map[string]ast.Item{
		"if ( c ) begin : g end":                                    {Kind: ast.GenIf, Exprs: exprs("c"), Items: genBlock("g")},
		"if ( c ) begin : g wire a ; wire b ; end":                  {Kind: ast.GenIf, Exprs: exprs("c"), Items: genBlock("g", a, b)},
		"if ( c ) begin : g wire a ; end else begin : k end":        {Kind: ast.GenIf, Exprs: exprs("c"), Items: genBlock("g", a), Else: genBlock("k")},
		"if ( ! c ) begin : g end else begin : k wire a ; end":      {Kind: ast.GenIf, Exprs: []ast.Expr{un("!", name("c"))}, Items: genBlock("g"), Else: genBlock("k", a)},
		"if ( c ) begin : g if ( d ) begin : h wire a ; end end":    {Kind: ast.GenIf, Exprs: exprs("c"), Items: genBlock("g", inner)},
		"for ( i = 0 ; c ; i = n ) begin : g wire a ; wire b ; end": {Kind: ast.GenFor, Text: "i", Exprs: exprs("0", "c", "n"), Items: genBlock("g", a, b)},
		"if ( c ) begin : g if ( d ) begin : h wire a ; end end else begin : k if ( d ) begin : h wire a ; end end": {
			Kind: ast.GenIf, Exprs: exprs("c"), Items: genBlock("g", inner), Else: genBlock("k", inner),
		},
		"for ( i = 0 ; i < 2 ; i = i + 1 ) begin : g if ( d ) begin : h wire a ; end wire b ; end": {
			Kind: ast.GenFor, Text: "i", Items: genBlock("g", inner, b),
			Exprs: []ast.Expr{num("0"), bin(name("i"), "<", num("2")), bin(name("i"), "+", num("1"))},
		},
	} {
		mustWriteItem(t, want, x)
	}
}

func TestP9_1Statements(t *testing.T) {
	null := ast.Stmt{Kind: ast.Null}
	a, b := set("y", "a"), set("y", "b")
	for want, s := range map[string]ast.Stmt{
		";":                                 null,
		"begin end":                         block(),
		"begin begin ; end y = a ; ; end":   block(block(null), a, null),
		"y = a ;":                           a,
		"y <= a ;":                          {Kind: ast.Later, Exprs: exprs("y", "a")},
		"y [ i ] = a <= b ;":                {Kind: ast.Set, Exprs: []ast.Expr{part(ast.Index, "y", name("i")), bin(name("a"), "<=", name("b"))}},
		"y [ 3 : 0 ] <= a <= b ;":           {Kind: ast.Later, Exprs: []ast.Expr{part(ast.Range, "y", exprs("3", "0")...), bin(name("a"), "<=", name("b"))}},
		"if ( c ) y = a ;":                  only("c", a),
		"if ( c ) ;":                        only("c", null),
		"if ( c ) y = a ; else y = b ;":     choice("c", a, b),
		"if ( c ) ; else y = b ;":           choice("c", null, b),
		"if ( c ) begin end else begin end": choice("c", block(), block()),
		"if ( a && b ) ;":                   {Kind: ast.If, Exprs: []ast.Expr{bin(name("a"), "&&", name("b"))}, Body: []ast.Stmt{null, null}},
		"case ( s ) a : y = a ; endcase":    {Kind: ast.Case, Exprs: exprs("s"), Arms: []ast.Arm{arm(a, "a")}},
		"case ( s ) default : ; endcase":    {Kind: ast.Case, Exprs: exprs("s"), Arms: []ast.Arm{arm(null)}},
		"case ( s ) 0 , 1 , P : y = a ; default : y = b ; 2 : begin end endcase": {
			Kind: ast.Case, Exprs: exprs("s"), Arms: []ast.Arm{arm(a, "0", "1", "P"), arm(b), arm(block(), "2")},
		},
		"case ( - s ) a + b : ; endcase": {Kind: ast.Case, Exprs: []ast.Expr{un("-", name("s"))}, Arms: []ast.Arm{{Exprs: []ast.Expr{bin(name("a"), "+", name("b"))}, Body: null}}},
		"case ( s ) a : case ( s ) b : ; endcase endcase": {
			Kind: ast.Case, Exprs: exprs("s"), Arms: []ast.Arm{arm(ast.Stmt{Kind: ast.Case, Exprs: exprs("s"), Arms: []ast.Arm{arm(null, "b")}}, "a")},
		},
		"for ( i = 0 ; c ; i = n ) y = a ;":                     loop(a),
		"for ( i = 0 ; c ; i = n ) begin y = a ; end":           loop(block(a)),
		"for ( i = 0 ; c ; i = n ) for ( i = 0 ; c ; i = n ) ;": loop(loop(null)),
		"for ( k = - 1 ; k < 4 ; k = k + 1 ) ;": {
			Kind: ast.For, Text: "k", Body: []ast.Stmt{null},
			Exprs: []ast.Expr{un("-", num("1")), bin(name("k"), "<", num("4")), bin(name("k"), "+", num("1"))},
		},
		"assert ( a ) ;":       {Kind: ast.Assert, Exprs: exprs("a")},
		"p : assert ( a ) ;":   {Kind: ast.Assert, Text: "p", Exprs: exprs("a")},
		"p : assert ( ! a ) ;": {Kind: ast.Assert, Text: "p", Exprs: []ast.Expr{un("!", name("a"))}},
	} {
		mustWriteStmt(t, want, s)
	}
}

// TestP9_1Else has first branches that end with an If without an else, and some
// that do not.
func TestP9_1Else(t *testing.T) {
	a, b, z := set("y", "a"), set("y", "b"), set("y", "z")
	null := ast.Stmt{Kind: ast.Null}
	const head = "for ( i = 0 ; c ; i = n ) "
	cases := ast.Stmt{Kind: ast.Case, Exprs: exprs("s"), Arms: []ast.Arm{arm(only("d", a), "a")}}
	for want, first := range map[string]ast.Stmt{
		"begin if ( d ) y = a ; end":                                             only("d", a),
		"begin if ( d ) ; end":                                                   only("d", null),
		"if ( d ) y = a ; else y = b ;":                                          choice("d", a, b),
		"begin if ( d ) y = a ; else if ( e ) y = b ; end":                       choice("d", a, only("e", b)),
		"if ( d ) y = a ; else if ( e ) y = b ; else y = a ;":                    choice("d", a, choice("e", b, a)),
		"begin if ( d ) y = a ; else if ( e ) y = b ; else if ( f ) y = a ; end": choice("d", a, choice("e", b, only("f", a))),
		"begin " + head + "if ( d ) y = a ; end":                                 loop(only("d", a)),
		head + "if ( d ) y = a ; else y = b ;":                                   loop(choice("d", a, b)),
		"begin " + head + head + "if ( d ) y = a ; end":                          loop(loop(only("d", a))),
		head + head + "y = a ;":                                                  loop(loop(a)),
		"begin if ( d ) y = a ; else " + head + "if ( e ) y = b ; end":           choice("d", a, loop(only("e", b))),
		"if ( d ) y = a ; else " + head + "y = b ;":                              choice("d", a, loop(b)),
		"begin " + head + "if ( d ) y = a ; else if ( e ) y = b ; end":           loop(choice("d", a, only("e", b))),
		"begin if ( d ) y = a ; end ":                                            block(only("d", a)),
		"begin y = b ; if ( d ) y = a ; end":                                     block(b, only("d", a)),
		head + "begin if ( d ) y = a ; end":                                      loop(block(only("d", a))),
		"if ( d ) y = a ; else begin if ( e ) y = b ; end":                       choice("d", a, block(only("e", b))),
		"case ( s ) a : if ( d ) y = a ; endcase":                                cases,
		head + "case ( s ) a : if ( d ) y = a ; endcase":                         loop(cases),
		"if ( d ) begin if ( e ) y = a ; end else y = b ;":                       choice("d", only("e", a), b),
		"begin if ( d ) if ( e ) y = a ; end":                                    only("d", only("e", a)),
		"begin if ( d ) if ( e ) y = a ; else y = b ; end":                       only("d", choice("e", a, b)),
		"begin if ( d ) begin if ( e ) y = a ; end else if ( f ) y = b ; end":    choice("d", only("e", a), only("f", b)),
		"assert ( a ) ;": {Kind: ast.Assert, Exprs: exprs("a")},
	} {
		want = strings.TrimSpace(want)
		mustWriteStmt(t, "if ( c ) "+want+" else y = z ;", choice("c", first, z))
		mustWriteStmt(t, "if ( c ) "+want+" else if ( g ) y = z ;", choice("c", first, only("g", z)))
		mustWriteStmt(t, "if ( c ) "+want+" else begin end", choice("c", first, block()))
	}
}

// TestP9_1NoElse has the same first branches where no else follows.
func TestP9_1NoElse(t *testing.T) {
	a, b := set("y", "a"), set("y", "b")
	mustWriteStmt(t, "if ( c ) if ( d ) y = a ;", only("c", only("d", a)))
	mustWriteStmt(t, "if ( c ) if ( d ) y = a ; else y = b ;", only("c", choice("d", a, b)))
	mustWriteStmt(t, "if ( c ) for ( i = 0 ; c ; i = n ) if ( d ) y = a ;", only("c", loop(only("d", a))))
	mustWriteStmt(t, "if ( c ) y = a ; else if ( d ) y = b ;", choice("c", a, only("d", b)))
	mustWriteStmt(t, "if ( c ) y = a ; else for ( i = 0 ; c ; i = n ) if ( d ) y = b ;", choice("c", a, loop(only("d", b))))
	mustWriteStmt(t, "begin if ( c ) if ( d ) y = a ; y = b ; end", block(only("c", only("d", a)), b))
	mustWriteStmt(t, "if ( c ) y = a ; else if ( d ) begin if ( e ) y = b ; end else y = a ;", choice("c", a, choice("d", only("e", b), a)))
}

func TestP9_1Expressions(t *testing.T) {
	a, b, c := name("a"), name("b"), name("c")
	mustWriteExpr(t, "a + ( - b )", bin(a, "+", un("-", b)))
	for want, e := range map[string]ast.Expr{
		"a":                           a,
		"8'hF_f":                      num("8'hF_f"),
		"a [ 3 ]":                     part(ast.Index, "a", num("3")),
		"a [ b [ c ] ]":               part(ast.Index, "a", part(ast.Index, "b", c)),
		"a [ b : c ]":                 part(ast.Range, "a", b, c),
		"a [ b ? c : a : b + c ]":     part(ast.Range, "a", cond(b, c, a), bin(b, "+", c)),
		"f ( a )":                     part(ast.Call, "f", a),
		"f ( a , - b , c ? a : b )":   part(ast.Call, "f", a, un("-", b), cond(c, a, b)),
		"$signed ( a )":               part(ast.Call, "$signed", a),
		"$unsigned ( a + b )":         part(ast.Call, "$unsigned", bin(a, "+", b)),
		"{ a }":                       part(ast.Cat, "", a),
		"{ a , - b , { c } }":         part(ast.Cat, "", a, un("-", b), part(ast.Cat, "", c)),
		"{ 2 { a } }":                 part(ast.Rep, "", num("2"), a),
		"{ W + 1 { a , b * c } }":     part(ast.Rep, "", bin(name("W"), "+", num("1")), a, bin(b, "*", c)),
		"{ { a } { { b } } }":         part(ast.Rep, "", part(ast.Cat, "", a), part(ast.Cat, "", b)),
		"{ 2 { { 3 { a } } } }":       part(ast.Rep, "", num("2"), part(ast.Rep, "", num("3"), a)),
		"( a + b ) + c":               bin(bin(a, "+", b), "+", c),
		"a + ( b + c )":               bin(a, "+", bin(b, "+", c)),
		"( a * b ) + ( b / c )":       bin(bin(a, "*", b), "+", bin(b, "/", c)),
		"( a ? b : c ) ? a : b":       cond(cond(a, b, c), a, b),
		"a ? ( a ? b : c ) : b":       cond(a, cond(a, b, c), b),
		"a ? b : ( a ? b : c )":       cond(a, b, cond(a, b, c)),
		"( ! a ) ? ( - b ) : ( ~ c )": cond(un("!", a), un("-", b), un("~", c)),
		"- ( ~ ( ! a ) )":             un("-", un("~", un("!", a))),
	} {
		mustWriteExpr(t, want, e)
	}
}

// TestP9_1Operands has each kind of expression as an operand of each operator
// and in each other place.
func TestP9_1Operands(t *testing.T) {
	a := name("a")
	prefixes := strings.Fields("- ~ ! & | ^ ~& ~| ~^")
	signs := strings.Fields("+ - * / % & | ^ ~^ << >> <<< >>> < <= > >= == != && ||")
	enclosed := map[string]ast.Expr{"a ? b : c": cond(a, name("b"), name("c"))}
	for _, sign := range prefixes {
		enclosed[sign+" a"] = un(sign, a)
	}
	for _, sign := range signs {
		enclosed["a "+sign+" 1"] = bin(a, sign, num("1"))
	}
	plain := map[string]ast.Expr{
		"a": a, "1": num("1"), "{ a , a }": part(ast.Cat, "", a, a), "{ 1 { a } }": part(ast.Rep, "", num("1"), a),
		"a [ 1 ]": part(ast.Index, "a", num("1")), "a [ 1 : 1 ]": part(ast.Range, "a", num("1"), num("1")), "f ( a )": part(ast.Call, "f", a),
	}
	check := func(text, operand string, e ast.Expr) {
		for _, sign := range prefixes {
			mustWriteExpr(t, sign+" "+operand, un(sign, e))
		}
		for _, sign := range signs {
			mustWriteExpr(t, operand+" "+sign+" z", bin(e, sign, name("z")))
			mustWriteExpr(t, "z "+sign+" "+operand, bin(name("z"), sign, e))
		}
		mustWriteExpr(t, operand+" ? y : z", cond(e, name("y"), name("z")))
		mustWriteExpr(t, "x ? "+operand+" : z", cond(name("x"), e, name("z")))
		mustWriteExpr(t, "x ? y : "+operand, cond(name("x"), name("y"), e))
		mustWriteExpr(t, text, e)
		mustWriteExpr(t, "{ z , "+text+" }", part(ast.Cat, "", name("z"), e))
		mustWriteExpr(t, "{ "+text+" { "+text+" } }", part(ast.Rep, "", e, e))
		mustWriteExpr(t, "z [ "+text+" ]", part(ast.Index, "z", e))
		mustWriteExpr(t, "z [ "+text+" : "+text+" ]", part(ast.Range, "z", e, e))
		mustWriteExpr(t, "z ( "+text+" , "+text+" )", part(ast.Call, "z", e, e))
		mustWriteStmt(t, "assert ( "+text+" ) ;", ast.Stmt{Kind: ast.Assert, Exprs: []ast.Expr{e}})
	}
	for text, e := range enclosed {
		check(text, "( "+text+" )", e)
	}
	for text, e := range plain {
		check(text, text, e)
	}
}

// TestP9_1Lines checks where words and lines are divided, as far as the chapter
// says it.
func TestP9_1Lines(t *testing.T) {
	cases := ast.Stmt{Kind: ast.Case, Exprs: exprs("s"), Arms: []ast.Arm{arm(set("y", "b"), "1"), arm(block(set("y", "c")))}}
	m := ast.Module{
		Name: "m", Params: []ast.Item{param("parameter", "W", "8")}, Ports: []ast.Item{net("input", "a"), net("output", "b")},
		Items: []ast.Item{
			net("wire", "w"), {Kind: ast.Assign, Exprs: exprs("w", "a")}, {Kind: ast.Comb, Body: []ast.Stmt{loop(cases)}},
			{Kind: ast.Func, Text: "f", Items: []ast.Item{net("input", "a")}, Body: []ast.Stmt{set("f", "a")}},
			{Kind: ast.GenIf, Exprs: exprs("c"), Items: genBlock("g", net("wire", "x"))}, {Kind: ast.Inst, Type: "n", Text: "u"},
		},
	}
	text := ast.Text(m, m)
	for _, gap := range []string{"  ", "\t", "\r"} {
		if strings.Contains(text, gap) {
			t.Errorf("P9.1: the text has %q between words: %q", gap, text)
		}
	}
	for _, part := range []string{
		"module m # ( parameter W = 8 ) ( input a , output b ) ;", "wire w ;", "assign w = a ;", "case ( s )", "y = b ;", "y = c ;", "endcase",
		"function f ;", "input a ;", "f = a ;", "endfunction", "wire x ;", "n u ( ) ;", "endmodule",
	} {
		before, after, found := strings.Cut(text, part)
		gap := after[:len(after)-len(strings.TrimLeft(after, " \n"))]
		if !found || !strings.Contains(gap, "\n") {
			t.Errorf("P9.1: no line ends with %q: %q", part, before+part+gap)
		}
	}
}

// TestP9_1AnyTree has trees that are not valid. Only the end of the call is
// specified.
func TestP9_1AnyTree(t *testing.T) {
	for _, kind := range []int{-1 << 62, -1, 0, 1, 2, 3, 4, 5, 6, 7, 8, 9, 10, 11, 12, 1 << 62} {
		for size := range 7 {
			args := make([]ast.Expr, size)
			e := ast.Expr{Kind: kind, Text: "\x00", Args: args}
			body := make([]ast.Stmt, size)
			s := ast.Stmt{Kind: kind, Exprs: args, Body: body, Arms: make([]ast.Arm, size)}
			items := make([]ast.Item, size)
			x := ast.Item{Kind: kind, Exprs: args, First: args, Body: body, Items: items, Else: items, Params: make([]ast.Conn, size), Ports: make([]ast.Conn, size)}
			outer := ast.Item{Kind: ast.Comb, Exprs: []ast.Expr{e, e}, Body: []ast.Stmt{s, choice("a", s, s), loop(s), {Kind: ast.Set, Exprs: []ast.Expr{e}}}}
			m := ast.Module{Params: []ast.Item{x}, Ports: []ast.Item{x}, Items: []ast.Item{x, outer, {Kind: ast.GenFor, Items: []ast.Item{x}}}}
			if ast.Text(m) != ast.Text(m) || !ast.Same([]ast.Module{m}, []ast.Module{m}) || ast.Depth(e) != min(size, 1)+1 || len(ast.Names(e)) > 2 {
				t.Errorf("P9.1: kind %d with %d parts", kind, size)
			}
		}
	}
}

// TestP9_1Deep has trees of a great depth.
func TestP9_1Deep(t *testing.T) {
	const depth = 1 << 14
	repeat := func(text string) string { return strings.Repeat(text, depth) }
	a, b := set("y", "a"), set("y", "b")
	mustWriteExpr(t, repeat("- ( ")+"- x"+repeat(" )"), nest(un("-", name("x")), func(e ast.Expr) ast.Expr { return un("-", e) }))
	mustWriteExpr(t, repeat("{ ")+"x"+repeat(" }"), nest(name("x"), func(e ast.Expr) ast.Expr { return part(ast.Cat, "", e) }))
	mustWriteStmt(t, repeat("if ( c ) ")+"y = a ;", nest(a, func(s ast.Stmt) ast.Stmt { return only("c", s) }))
	mustWriteStmt(t, repeat("begin ")+"y = a ;"+repeat(" end"), nest(a, func(s ast.Stmt) ast.Stmt { return block(s) }))
	mustWriteStmt(t, repeat("if ( c ) y = b ; else ")+"y = a ;", nest(a, func(s ast.Stmt) ast.Stmt { return choice("c", b, s) }))
	mustWriteStmt(t, repeat("if ( c ) ")+"y = a ;"+repeat(" else y = b ;"), nest(a, func(s ast.Stmt) ast.Stmt { return choice("c", s, b) }))
	mustWriteStmt(t, repeat("if ( c ) begin if ( d ) ")+"y = a ;"+repeat(" end else y = b ;"), nest(a, func(s ast.Stmt) ast.Stmt { return choice("c", only("d", s), b) }))
	mustWriteItem(t, repeat("if ( c ) begin : g ")+"wire a ;"+repeat(" end"), nest(net("wire", "a"), func(x ast.Item) ast.Item {
		return ast.Item{Kind: ast.GenIf, Exprs: exprs("c"), Items: genBlock("g", x)}
	}))
}

// nest puts something into something else, 1 << 14 times.
func nest[T any](inner T, wrap func(inner T) T) T {
	for range 1 << 14 {
		inner = wrap(inner)
	}
	return inner
}
