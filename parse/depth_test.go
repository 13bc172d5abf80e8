package parse_test

import (
	"strings"
	"testing"

	"sluicegate/api"
	"sluicegate/ast"
	"sluicegate/lex"
)

// written returns how many elements are nested in the Text of modules.
func written(list []ast.Module) int {
	deepest := 0
	for _, m := range list {
		deepest = max(deepest, partsOfItems(m.Params), partsOfItems(m.Ports), itemsWritten(m.Items))
	}
	return deepest
}

// partsOfItems returns how many elements are nested within items.
func partsOfItems(list []ast.Item) int {
	deepest := 0
	for _, x := range list {
		inner := max(exprsWritten(x.Exprs, x.First), stmtsWritten(x.Body))
		switch x.Kind {
		case ast.Assign:
			inner = assignmentWritten(x.Exprs)
		case ast.Func, ast.GenFor, ast.GenIf: // their items are none in the grammar, but declarations and blocks
			inner = max(inner, partsOfItems(x.Items), partsOfItems(x.Else))
		case ast.GenBlock:
			inner = max(inner, itemsWritten(x.Items))
		}
		for _, c := range append(append([]ast.Conn{}, x.Params...), x.Ports...) {
			inner = max(inner, exprsWritten(c.Exprs))
		}
		deepest = max(deepest, inner)
	}
	return deepest
}

func itemsWritten(list []ast.Item) int {
	if len(list) == 0 {
		return 0
	}
	return 1 + partsOfItems(list)
}

func stmtsWritten(list []ast.Stmt) int {
	deepest := 0
	for _, s := range list {
		inner := max(exprsWritten(s.Exprs), stmtsWritten(s.Body))
		if s.Kind == ast.Set || s.Kind == ast.Later {
			inner = assignmentWritten(s.Exprs)
		}
		for _, arm := range s.Arms {
			inner = max(inner, exprsWritten(arm.Exprs), stmtsWritten([]ast.Stmt{arm.Body}))
		}
		deepest = max(deepest, inner+1)
	}
	return deepest
}

// assignmentWritten is for a target, which is no expression in the grammar, and a
// value.
func assignmentWritten(list []ast.Expr) int {
	return max(partsWritten(list[0]), exprsWritten(list[1:]))
}

func exprsWritten(lists ...[]ast.Expr) int {
	deepest := 0
	for _, list := range lists {
		for _, e := range list {
			deepest = max(deepest, 1+partsWritten(e))
		}
	}
	return deepest
}

// partsWritten returns how many elements are nested within an expression.
func partsWritten(e ast.Expr) int {
	deepest := 0
	for i, arg := range e.Args {
		isOperation := arg.Kind == ast.Un || arg.Kind == ast.Bin || arg.Kind == ast.Cond
		inner := partsWritten(arg)
		switch {
		case e.Kind == ast.Un || e.Kind == ast.Cond && i > 0:
			inner++
			fallthrough
		case e.Kind == ast.Bin || e.Kind == ast.Cond:
			if isOperation {
				inner++
			}
		default:
			inner++
		}
		deepest = max(deepest, inner)
	}
	return deepest
}

// nesting is something that can be within itself: the tokens before and after
// the inner one. The first element that it adds is marked by « if it is not the
// inner one.
type nesting struct{ before, after string }

// mustNest fails unless there may be so much of that nesting around an element,
// which begins with so many others around it, as the limit permits.
func mustNest(t *testing.T, head, tail string, around int, inner string, n nesting) {
	t.Helper()
	most := api.MaxDeep - 1 - around
	before, rest, _ := strings.Cut(n.before, "«")
	text := func(times int) string {
		return head + " " + strings.Repeat(before+rest+" ", times) + inner + " " + strings.Repeat(n.after+" ", times) + tail
	}
	mustRead(t, "P10.2", text(most-1))
	mustRead(t, "P10.2", text(most))
	index := len(scan(t, head)) + most*len(scan(t, before+rest)) + len(scan(t, before))
	for times := most + 1; times < most+3; times++ {
		tokens := scan(t, text(times))
		mustReject(t, api.ErrDeep, index, tokens)
		mustReject(t, api.ErrDeep, index, tokens[:index+1])
		mustReject(t, api.ErrEnd, index-1, tokens[:index])
	}
}

func TestP10_2DeepExpressions(t *testing.T) {
	for _, n := range []nesting{
		{"(", ")"}, {"a [", "]"}, {"a [ «1 :", "]"}, {"a [", ": 1 ]"}, {"f (", ")"}, {"f ( «a ,", ", b )"}, {"$signed (", ")"}, {"$unsigned (", ")"},
		{"{", "}"}, {"{ «a ,", ", b }"}, {"{", "{ a } }"}, {"{ «2 {", "} }"}, {"{ «2 { a ,", "} }"}, {"a ?", ": b"}, {"a ? «b :", ""},
		{"a + (", ") * b"}, {"a * b [ «1 :", "] - c"}, {"c - { «2 {", "} }"},
	} {
		for _, inner := range []string{"z", "4'b1"} {
			mustNest(t, "module m ( ) ; assign y =", "; endmodule", 1, inner, n)
			mustNest(t, "module m ( ) ; always @ * begin if (", ") ; end endmodule", 3, inner, n)
			mustNest(t, "module m # ( parameter P =", ") ( ) ; endmodule", 0, inner, n)
			mustNest(t, "module m ( input [ 3 :", "] a ) ; endmodule", 0, inner, n)
			mustNest(t, "module m ( ) ; n u ( . a (", ") ) ; endmodule", 1, inner, n)
		}
	}
}

// TestP10_2DeepPrefixes has operators before an operand.
func TestP10_2DeepPrefixes(t *testing.T) {
	for _, sign := range strings.Fields("- ~ ! & | ^ ~& ~| ~^ ^~ +") {
		text := func(times int) string {
			return "module m ( ) ; assign y = " + strings.Repeat(sign+" ", times) + "a ; endmodule"
		}
		mustRead(t, "P10.2", text(api.MaxDeep-2))
		before := len(scan(t, "module m ( ) ; assign y ="))
		mustReject(t, api.ErrDeep, before+api.MaxDeep-2, scan(t, text(api.MaxDeep-1)))
		mustReject(t, api.ErrDeep, before+api.MaxDeep-2, scan(t, text(api.MaxDeep+9)))
		mustReject(t, api.ErrEnd, before+api.MaxDeep-3, scan(t, text(api.MaxDeep-1))[:before+api.MaxDeep-2])
	}
	deep := strings.Repeat("- ( ", 18) + "- - " // 2 + 36 + 2 elements
	mustRead(t, "P10.2", "module m ( ) ; assign y = "+deep+"a"+strings.Repeat(" )", 18)+" ; endmodule")
	mustRejectText(t, api.ErrDeep, "module m ( ) ; assign y = "+deep+"« - a"+strings.Repeat(" )", 18)+" ; endmodule")
	mustRejectText(t, api.ErrDeep, "module m ( ) ; assign y = "+deep+"( «a )"+strings.Repeat(" )", 18)+" ; endmodule")
}

// TestP10_2NotDeep has long expressions in which nothing is nested.
func TestP10_2NotDeep(t *testing.T) {
	for _, part := range []string{"a +", "a - 1 *", "( a ) &&", "- a <<", "f ( b ) ==", "a [ 1 ] |", "{ b , c } +"} {
		e := valueOf(t, "P10.2", strings.Repeat(part+" ", 300)+"z")
		if got := ast.Depth(e); got < 300 {
			t.Errorf("P10.2: %s: the depth is %d", part, got)
		}
	}
	mustRead(t, "P10.2", "module m ( ) ; "+strings.Repeat("wire w ; ", 100)+"always @ * begin "+strings.Repeat("if ( a ) ; else ; ", 100)+"end endmodule")
}

func TestP10_2DeepStatements(t *testing.T) {
	for _, n := range []nesting{
		{"begin", "end"}, {"begin «;", "; end"}, {"if ( «a )", ""}, {"if ( «a ) ; else", ""}, {"for ( i = «0 ; i < 2 ; i = i + 1 )", ""},
		{"case ( «a ) b :", "endcase"}, {"case ( «a ) b : ; default :", "c : ; endcase"},
	} {
		mustNest(t, "module m ( ) ; always @ *", "endmodule", 1, ";", n)
		mustNest(t, "module m ( ) ; always @ *", "endmodule", 1, "begin end", n)
		mustNest(t, "module m ( ) ; if ( c ) begin : g always @ ( posedge clk )", "end endmodule", 2, ";", n)
		mustNest(t, "module m ( ) ; function f ;", "endfunction endmodule", 1, ";", n)
	}
}

func TestP10_2DeepItems(t *testing.T) {
	for _, n := range []nesting{
		{"if ( «c ) begin : g", "end"}, {"if ( «c ) begin : g end else begin : h", "end"}, {"for ( i = «0 ; i < 2 ; i = i + 1 ) begin : g", "end"},
	} {
		mustNest(t, "module m ( ) ;", "endmodule", 0, "wire w ;", n)
		mustNest(t, "module m ( ) ;", "endmodule", 0, "genvar i ;", n)
		mustNest(t, "module m ( ) ; if ( c ) begin : g", "end endmodule", 1, "n u ( ) ;", n)
	}
}

// TestP10_2DeepAndOtherErrors has a wrong token where an element would be
// nested too deeply.
func TestP10_2DeepAndOtherErrors(t *testing.T) {
	head := "module m ( ) ; assign y = " + strings.Repeat("( ", api.MaxDeep-2)
	for _, wrong := range strings.Fields(") ] } , ; : ? * == ~ ! module end $x") {
		want := api.ErrForm
		if wrong == "~" || wrong == "!" {
			want = api.ErrDeep
		}
		mustRejectText(t, want, head+"«"+wrong+" a")
	}
	mustRejectText(t, api.ErrDeep, head+"( «a b c ] module")
	mustRejectText(t, api.ErrForm, head+"a «b ( ( ( a")
}

// TestP10_2DeepLimitsOfText has trees whose Text is nested as deeply as it may
// be, or one more.
func TestP10_2DeepLimitsOfText(t *testing.T) {
	for terms := 2; terms < 50; terms++ {
		text := "module m ( ) ; assign y = a" + strings.Repeat(" + a", terms-1) + " ; endmodule"
		list := mustRead(t, "P10.2", text)
		again := scan(t, ast.Text(list...))
		if written(list) <= api.MaxDeep {
			if got := mustRead(t, "P10.2", lex.Text(again...)); !ast.Same(got, list) {
				t.Errorf("P10.2: %d terms: another tree", terms)
			}
		} else {
			index := len(scan(t, "module m ( ) ; assign y =")) + api.MaxDeep - 2
			mustReject(t, api.ErrDeep, index+1, again)
		}
	}
}
