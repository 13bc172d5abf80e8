package parse_test

import (
	"math/rand/v2"
	"strconv"
	"strings"
	"testing"

	"sluicegate/api"
	"sluicegate/lex"
	"sluicegate/parse"
)

// TestP10_2WrongTokens has a token with which the text cannot continue in each
// of many places.
func TestP10_2WrongTokens(t *testing.T) {
	for _, text := range []string{
		"«a", "«;", "«wire w ;", "«endmodule", "«1", "module «1", "module «module", "module «$m ( ) ;", "module «( ) ;", "module m «;", "module m «[", "module m ( «,",
		"module m # «;", "module m # ( «)", "module m # ( «W = 1 )", "module m # ( parameter «= 1 )", "module m # ( parameter W «)", "module m # ( parameter W = «)",
		"module m # ( parameter W = 1 «;", "module m # ( parameter W = 1 , «V = 1", "module m # ( parameter W = 1 , «)", "module m # ( parameter W = 1 ) «;",
		"module m ( «a )", "module m ( «reg a )", "module m ( «wire a )", "module m ( input «)", "module m ( input «wire a )", "module m ( input «reg a )",
		"module m ( input a «= 1 )",
		"module m ( input a «[ 1 : 0 ] )", "module m ( input [ 1 «] a )", "module m ( input [ 1 : 0 «: 1 ] a )", "module m ( input [ 1 : 0 ] «signed a )",
		"module m ( input signed «signed a )",
		"module m ( input a «output b )", "module m ( input a , «b )", "module m ( input a , «)", "module m ( output signed «reg a )",
		"module m ( output reg «reg a )", "module m ( output a «= 1 )",
		"module m ( output reg a = «)", "module m ( output reg a «[ 1 : 0 ] )", "module m ( ) «wire w ;", "module m ( ) «)",
	} {
		mustRejectText(t, api.ErrForm, text)
	}
	for _, text := range []string{
		"«;", "«1", "«module", "«end", "«begin : g end", "«else", "«input a ;", "«output a ;", "«parameter P = 1 ;", "p «: assert ( a ) ;",
		"«assert ( a ) ;", "«case ( a )", "«endgenerate", "«endfunction", "«$n u ( ) ;",
		"wire «;", "wire «reg a ;", "wire a «, b ;", "wire a «= 1 ;", "wire [ 1 «] a ;", "wire [ «: 0 ] a ;", "wire [ 1 : 0 «; a",
		"wire [ 1 : 0 ] a «[ 1 : 0 ] ;", "wire a «wire b ;", "wire signed «signed a ;", "wire [ 1 : 0 ] «signed a ;",
		"reg «;", "reg a «, b ;", "reg a «[ 1 : 0 ] ;", "reg [ 1 : 0 ] a [ 1 «] ;", "reg [ 1 : 0 ] a [ 1 : 0 ] «= 1 ;",
		"reg [ 1 : 0 ] a [ 1 : 0 ] «[ 1 : 0 ] ;", "reg a = «;", "reg a = 1 «, b", "reg [ 1 : 0 ] «[ 1 : 0 ] a ;",
		"integer «[ 1 : 0 ] i ;", "integer «signed i ;", "integer i «, j ;", "integer i «= 0 ;", "integer «;", "localparam «[ 1 : 0 ] P = 1 ;",
		"localparam P «;", "localparam P = 1 «, Q = 2 ;", "localparam «signed P = 1 ;",
		"genvar «;", "genvar i «, j ;", "genvar i «= 0 ;", "assign «1 = a ;", "assign «{ a , b } = c ;", "assign y «;", "assign y «<= a ;", "assign y = «;",
		"assign y = a «= b ;", "assign y = a «, z = b ;", "assign «( y ) = a ;",
		"assign y «( a ) = b ;", "assign y [ 1 ] «[ 0 ] = a ;", "assign y [ 2 : 1 «: 0 ] = a ;", "assign y [ «] = a ;", "assign y «. a = b ;", "assign «$y = a ;",
		"always «y = a ;", "always «begin end", "always @ «a ;", "always @ «; ", "always @ ( «a ) ;", "always @ ( «negedge clk ) ;",
		"always @ ( * «posedge clk ) ;", "always @ ( posedge «) ;", "always @ ( posedge clk «or a ) ;", "always @ ( posedge «( clk ) ) ;",
		"always @ * «wire w ;", "always @ * ; «;", "always «* ;",
		"function «;", "function f «( a ) ;", "function f ; «endfunction", "function f ; «output a ; ;", "function f ; «wire a ; ;",
		"function f ; input «reg a ; ;", "function f ; input a «= 1 ; ;", "function f ; input a «, b ; ;",
		"function f ; input a «[ 1 : 0 ] ; ;", "function f ; input [ 1 : 0 ] a «[ 1 : 0 ] ; ;", "function f ; reg a «[ 1 : 0 ] ; ;",
		"function f ; integer «[ 1 : 0 ] i ; ;", "function f ; ; «input a ;", "function f ; ; «;", "function «integer f ; ;", "function f ; ; «endmodule",
		"function [ 1 «] f ; ;", "function [ 1 : 0 ] «signed f ; ;",
		"n «( ) ;", "n «; ", "n «= a ;", "n u «;", "n u ( «a ) ;", "n u ( . «) ;", "n u ( . a «) ;", "n u ( . a ( ) «. b ( ) ) ;", "n u ( . a ( ) , «) ;",
		"n u ( . a ( b «, c ) ) ;", "n u ( ) «, v ( ) ;", "n u ( ) «( ) ;", "n # «u ( ) ;", "n # ( «4 ) u ( ) ;",
		"n # ( . W ( 4 ) ) «( ) ;", "n # ( . W ( 4 ) ) «# ( ) u ( ) ;", "n u «# ( ) ( ) ;", "n «[ 1 : 0 ] u ( ) ;", "n u ( «, ) ;",
		"for «i = 0", "for ( «1 = 0", "for ( i «< 0", "for ( i = 0 «, j = 0 ;", "for ( i = 0 ; «; i = i + 1 )", "for ( i = 0 ; i < 2 ; «j = i + 1 )",
		"for ( i = 0 ; i < 2 ; «1 = i + 1 )", "for ( i = 0 ; i < 2 ; i «+ = 1 )", "for ( i = 0 ; i < 2 ; i = 1 «; ) begin : g end", "for ( «genvar i = 0",
		"for ( i = 0 ; i < 2 ; i = 1 ) «wire w ;", "for ( i = 0 ; i < 2 ; i = 1 ) begin «wire w ; end", "for ( i = 0 ; i < 2 ; i = 1 ) begin : «end",
		"for ( i = 0 ; i < 2 ; i = 1 ) begin : g «; end", "for ( i = 0 ; i < 2 ; i = 1 ) begin : g end «else",
		"if «a begin : g end", "if ( «) begin : g end", "if ( a «begin", "if ( a ) «wire w ;", "if ( a ) begin «end",
		"if ( a ) begin : g end else «wire w ;", "if ( a ) begin : g end else «if ( b ) begin : h end", "if ( a ) begin : g end else begin : h end «else",
		"if ( a ) begin : g «endmodule",
		"generate «; endgenerate", "generate «end", "generate «endmodule", "generate wire w ; «endmodule", "generate «begin : g end endgenerate", "generate endgenerate «;",
	} {
		mustRejectText(t, api.ErrForm, "module m ( ) ; wire v ; "+text)
	}
}

func TestP10_2WrongStatements(t *testing.T) {
	for _, text := range []string{
		"«1", "«wire w ;", "«$a = 1 ;", "«{ a , b } = c ;", "«( a ) = b ;", "«default : ;", "«endcase", "«else ;", "«endfunction", "«always @ * ;",
		"«- a = 1 ;", "«generate", "«posedge",
		"a «;", "a «( b ) ;", "a «b ;", "a «== b ;", "a «< = b ;", "a [ 1 «= 2 ;", "a [ 1 ] «;", "a [ 1 ] «: assert ( b ) ;", "a [ 2 : 1 ] «[ 0 ] = b ;",
		"a = «;", "a = b «= c ;", "a <= «<= b ;", "a = b «c ;", "a «, b = c ;", "a = b «, c = d ;",
		"a : «;", "a : «b = 1 ;", "a : «begin end", "a : «b : assert ( c ) ;", "assert «a ;", "assert ( «) ;", "assert ( a «, b ) ;", "assert ( a ) «begin",
		"assert «: a ( b ) ;", "a : assert ( b «;",
		"if «a ;", "if ( «) ;", "if ( a «; ", "if ( a «= b ) ;", "if ( a ) «else ;", "if ( a ) ; else «else ;", "begin if ( a ) ; else ; «else ; end",
		"begin ; «endmodule", "begin «: g end", "begin ; «endcase", "begin «wire w ; end",
		"case «a", "case ( a ) «endcase", "case ( a ) «; endcase", "case ( a ) b «; endcase", "case ( a ) b , «: ; endcase",
		"case ( a ) default «; endcase", "case ( a ) default «, b : ; endcase", "case ( a ) b , «default : ; endcase",
		"case ( a ) b : «endcase", "case ( a ) b : ; «end", "case ( a ) b : ; «; endcase", "case ( a ) «case ( b )",
		"case ( a ) b : ; default : ; «endmodule", "case ( a ) b ? c : d «; endcase", "case ( a ) «$x : ; endcase",
		"for «i = 0", "for ( i = 0 ; i < 2 ; «j = i ) ;", "for ( i = 0 ; i < 2 ; i = i + 1 «; ;", "for ( i = 0 ; i < 2 ; i = i + 1 ) «end",
		"for ( i «[ 0 ] = 0 ; i < 2 ; i = i + 1 ) ;", "for ( i = 0 ; i < 2 ; i «[ 0 ] = 1 ) ;", "for ( «; ; ) ;", "for ( i «<= 0 ; i < 2 ; i = 1 ) ;",
	} {
		mustRejectText(t, api.ErrForm, "module m ( ) ; always @ * begin ; "+text)
		mustRejectText(t, api.ErrForm, "module m ( ) ; function f ; if ( a ) "+text)
	}
}

func TestP10_2WrongExpressions(t *testing.T) {
	for _, text := range []string{
		"«)", "«]", "«* a", "«/ a", "«== a", "«&& a", "«|| a", "«<< a", "«< a", "«? a : b", "«: a", "«= a", "«. a", "«# a", "«@ a", "«, a", "«end",
		"«module", "«assert ( a )", "«$x", "«$x ( a )", "«signed ( a )",
		"a + «;", "a + «* b", "a + «)", "a «b", "a «1", "1 «a", "1 «[ 0 ]", "1 «( a )", "a «{ b }", "a «~ b", "a «! b", "a «~& b", "a «~| b", "a «= b",
		"a «. b", "a «# b", "a «@ b", "a «: b", "a «, b", "a «) ", "a «]", "a «}",
		"a ? «: b", "a ? b «;", "a ? b «, c", "a ? b : «;", "a ? b : c «: d", "a ? b ? c : d «; e", "- «;", "- «* a", "- ( «)", "~ «? a", "( «)", "( a «;",
		"( a «, b )", "( a «] ", "( a ) «b", "( a ) «( b )", "( a ) «[ 1 ]", "( a «b )",
		"a [ «]", "a [ 1 «, 2 ]", "a [ 1 «)", "a [ 1 : «]", "a [ 1 : 2 «: 3 ]", "a [ 1 ] «[ 2 ]", "a [ 1 ] «( b )", "a [ 1 ] «a", "a [ 1 ? 2 «] : 3",
		"f ( «)", "f ( a «;", "f ( a , «)", "f ( a «b )", "f ( a ) «( b )", "f ( a ) «[ 1 ]", "f ( «, a )", "$signed «;", "$signed «[ 1 ]", "$signed «a",
		"$unsigned «+ a", "$signed ( «)", "$signed ( a ) «[ 1 ]",
		"{ «}", "{ a «;", "{ a , «}", "{ a , b «{ c } }", "{ a «)", "{ 2 { «} }", "{ 2 { a «; } }", "{ 2 { a } «; }", "{ 2 { a } «, b }", "{ 2 { a , «} }",
		"{ 2 { a } } «[ 1 ]", "{ a } «{ b }", "{ a } «[ 1 ]", "{ 2 { a } «{ b } }", "{ «, a }",
	} {
		mustRejectText(t, api.ErrForm, "module m ( ) ; assign y = "+text)
		mustRejectText(t, api.ErrForm, "module m ( ) ; always @ * y <= "+text)
	}
}

// TestP10_2ReservedWords has each word of the grammar where a NAME is required.
func TestP10_2ReservedWords(t *testing.T) {
	for _, word := range keywords() {
		for _, text := range []string{
			"module «? ( ) ; endmodule", "module m ( input «? )", "module m # ( parameter «? = 1 )", "module m ( ) ; wire «?", "module m ( ) ; genvar «?",
			"module m ( ) ; always @ ( posedge «?", "module m ( ) ; n «? ( )", "module m ( ) ; n u ( . «? ( ) )",
			"module m ( ) ; assign y = a + «? ;", "module m ( ) ; assign «? = a ;", "module m ( ) ; for ( «? = 0 ;", "module m ( ) ; if ( a ) begin : «? end",
			"module m ( ) ; function f ; input «? ;", "module m ( ) ; localparam «? = 1 ;", "module m ( ) ; integer «? ;",
		} {
			if strings.HasPrefix(text, "module m ( ) ; wire") && word == "signed" || strings.Contains(text, "input") && word == "signed" {
				continue
			}
			mustRejectText(t, api.ErrForm, strings.ReplaceAll(text, "?", word))
		}
	}
	for _, name := range strings.Fields("negedge initial or Module MODULE modules signed_ _reg clk tri inout edge while task endtask endspecify logic e begin1") {
		mustRead(t, "P10.2", strings.ReplaceAll("module ? ( input ? ) ; wire ? ; assign ? = ? + ? ( ? ) ; ? # ( . ? ( ? ) ) ? ( ) ; always @ ( posedge ? ) begin ? <= ? ; ? : assert ( ? ) ; end endmodule", "?", name))
	}
}

// TestP10_2EarlyEnds cuts sources after each token.
func TestP10_2EarlyEnds(t *testing.T) {
	for _, text := range []string{
		"module m # ( parameter W = 4 , parameter V = W ) ( input clk , output reg signed [ W - 1 : 0 ] q = 3 , output x ) ; wire signed [ 1 : 0 ] w ; reg [ 3 : 0 ] r [ 0 : 7 ] ; integer i ; localparam P = - 1 ; genvar g ; assign w [ 1 ] = { a , { 2 { b } } } ; endmodule",
		"module m ( ) ; always @ ( * ) begin if ( a ) y = b ? c : d ; else begin y [ 3 : 1 ] <= f ( a , $signed ( b ) ) ; end case ( s ) 0 , 1 : ; default : for ( i = 0 ; i < 2 ; i = i + 1 ) y = ( a ) ; endcase p : assert ( ! a ) ; end endmodule",
		"module m ( ) ; function signed [ 1 : 0 ] f ; input a ; reg [ 1 : 0 ] b ; integer i ; f = a ; endfunction n # ( . W ( 4 ) ) u ( . a ( b ) , . c ( ) ) ; generate for ( i = 0 ; i < 2 ; i = i + 1 ) begin : g if ( a ) begin : h wire w ; end else begin : k end end endgenerate endmodule",
	} {
		tokens := scan(t, text)
		for size := 1; size < len(tokens); size++ {
			mustReject(t, api.ErrEnd, size-1, tokens[:size])
		}
		mustRead(t, "P10.2", text)
	}
}

// TestP10_2FunctionRegs has regs of functions with word numbers or an initial
// value, with other errors before and after the end of their declaration.
func TestP10_2FunctionRegs(t *testing.T) {
	for text, want := range map[string]api.Errno{
		"«reg a = 1 ;":   api.ErrForm,
		"«reg a = 1 ; 9": api.ErrForm,
		"«reg signed a = - b [ 1 ] ; ; endfunction":         api.ErrForm,
		"«reg [ 3 : 0 ] a [ 0 : 3 ] ;":                      api.ErrForm,
		"«reg signed [ 3 : 0 ] a [ 0 : 3 ] ; reg b = 1 ; ;": api.ErrForm,
		"input x ; integer i ; reg r ; «reg a = 1 ; ;":      api.ErrForm,
		"reg a = 1 «, b ;":                                  api.ErrForm,
		"reg a = «;":                                        api.ErrForm,
		"reg a = 1 «2 ;":                                    api.ErrForm,
		"reg [ 3 : 0 ] a [ 0 «] ;":                          api.ErrForm,
		"reg [ 3 : 0 ] a [ 0 : 3 ] «= 1 ;":                  api.ErrForm,
		"reg [ 3 : 0 ] a [ 0 : 3 «; ":                       api.ErrForm,
		"reg a «[ 0 : 3 ] ;":                                api.ErrForm,
		"reg a = «1":                                        api.ErrEnd,
		"reg a «=":                                          api.ErrEnd,
		"reg [ 3 : 0 ] a [ 0 : 3 «]":                        api.ErrEnd,
		"reg [ 3 : 0 ] a «[":                                api.ErrEnd,
	} {
		mustRejectText(t, want, "module m ( ) ; function f ; "+text)
	}
	mustRead(t, "P10.2", "module m ( ) ; function f ; reg signed [ 3 : 0 ] a ; ; endfunction reg b = 1 ; reg [ 3 : 0 ] c [ 0 : 3 ] ; endmodule")
}

// TestP10_2Twice has modules with the same name.
func TestP10_2Twice(t *testing.T) {
	for _, text := range []string{
		"module m ( ) ; endmodule «module m ( ) ; endmodule",
		"module m ( ) ; endmodule «module m ( input a ) ; wire b ; endmodule wire",
		"module m ( ) ; endmodule module n ( ) ; endmodule «module m ( ) ; endmodule module n ( ) ; endmodule",
		"module m ( ) ; endmodule module n ( ) ; endmodule «module n ( ) ; endmodule module",
		"module m ( ) ; endmodule «module m ( ) ; endmodule module m ( ) ; endmodule",
	} {
		mustRejectText(t, api.ErrTwice, text)
	}
	mustRejectText(t, api.ErrForm, "module m ( ) ; endmodule module m ( ) ; wire «; endmodule")
	mustRejectText(t, api.ErrEnd, "module m ( ) ; endmodule module m ( ) ; wire w «;")
	mustRead(t, "P10.2", "module m ( ) ; m m ( ) ; endmodule module M ( ) ; wire m ; endmodule module m_ ( ) ; endmodule")
}

// manyModules returns modules with different names.
func manyModules(count int) string {
	text := ""
	for i := range count {
		text += "module m" + strconv.Itoa(i) + " ( ) ; endmodule "
	}
	return text
}

func TestP10_2ManyModules(t *testing.T) {
	if list := mustRead(t, "P10.2", manyModules(api.MaxModules)); len(list) != api.MaxModules || list[api.MaxModules-1].Name != "m39" {
		t.Errorf("P10.2: %d modules are read", len(list))
	}
	full := manyModules(api.MaxModules)
	mustRejectText(t, api.ErrLimit, full+"«module n ( ) ; endmodule")
	mustRejectText(t, api.ErrLimit, full+"«module")
	mustRejectText(t, api.ErrLimit, full+"«module module 9")
	mustRejectText(t, api.ErrLimit, full+"«module m0 ( ) ; endmodule module m0 ( ) ; endmodule")
	mustRejectText(t, api.ErrForm, full+"«wire w ;")
	mustRejectText(t, api.ErrTwice, manyModules(api.MaxModules-1)+"«module m0 ( ) ; endmodule module n ( ) ; endmodule")
	mustRejectText(t, api.ErrEnd, manyModules(api.MaxModules-1)+"«module")
}

// TestP10_2ManyStatements has statements and items at the limit, and one more.
func TestP10_2ManyStatements(t *testing.T) {
	const most = api.MaxStmts
	times := func(text string, count int) string { return strings.Repeat(text+" ", count) }
	for _, x := range []struct {
		head, part, tail string
		others, each     int // statements and items of head and tail, and of a part
	}{
		{"module m ( ) ;", "wire w ;", "endmodule", 0, 1},
		{"module m ( ) ;", "n u ( ) ;", "endmodule", 0, 1},
		{"module m ( input a ) ; always @ * begin", ";", "end endmodule", 2, 1},
		{"module m ( ) ; always @ * begin", "y = a ;", "end endmodule", 2, 1},
		{"module m ( ) ; always @ * case ( a )", "b : «y <= c ;", "endcase endmodule", 2, 1},
		{"module m ( ) ; always @ * begin", "p : assert ( a ) ;", "end endmodule", 2, 1},
		{"module m ( ) ; wire w ; endmodule module n ( ) ; always @ ( posedge clk ) begin", ";", "end endmodule", 3, 1},
		{"module m ( ) ;", "always @ * ;", "endmodule", 0, 2},
		{"module m ( ) ; always @ * begin", "if ( a ) ;", "end endmodule", 2, 2},
	} {
		label, rest, isMarked := strings.Cut(x.part, "«")
		if !isMarked {
			label, rest = "", x.part
		}
		full := x.head + " " + times(label+rest, (most-x.others)/x.each)
		mustRead(t, "P10.2", full+x.tail)
		before := len(scan(t, full+label))
		tokens := scan(t, full+label+rest+" "+x.tail)
		mustReject(t, api.ErrLimit, before, tokens)
		mustReject(t, api.ErrLimit, before, tokens[:before+1])
		mustReject(t, api.ErrEnd, before-1, tokens[:before])
		mustReject(t, api.ErrForm, before, scan(t, full+label+") "+x.tail))
	}
	mustRejectText(t, api.ErrLimit, "module m ( ) ; "+times("always @ * ;", most/2-1)+"wire w ; always @ * «; endmodule")
	mustRejectText(t, api.ErrLimit, "module m ( ) ; "+times("wire w ;", most)+"endmodule module n ( ) ; «wire w ; ; ; 9")
	mustRejectText(t, api.ErrForm, "module m ( ) ; "+times("wire w ;", most-1)+"wire «; wire w ; wire w ;")
	mustRejectText(t, api.ErrTwice, "module m ( ) ; "+times("wire w ;", most)+"endmodule «module m ( ) ; endmodule module n ( ) ; wire w ;")
	mustRead(t, "P10.2", "module m # ( parameter P = 1 ) ( input a , input b ) ; "+times("assign y = a + b ;", most)+"endmodule module n ( input a ) ; endmodule")
}

// TestP10_2AnyTokens has tokens in any order, and some that Lex never returns.
func TestP10_2AnyTokens(t *testing.T) {
	r := rand.New(rand.NewPCG(10, 6))
	texts := append(keywords(), strings.Fields("a $ $signed $a 1 'b1 4'q + - ( ) [ ] { } ; : = <= ? # @ . , * \x00 \xff é")...)
	texts = append(texts, "", " ", "a b", "a;", strings.Repeat("n", 100), "begin ;", "\n")
	heads := []string{"", "module m (", "module m ( ) ;", "module m ( ) ; always @ * begin", "module m ( ) ; assign y =", "module m ( ) ; function f ;"}
	for range 50000 {
		tokens := scan(t, heads[r.IntN(len(heads))])
		for range r.IntN(12) {
			tokens = append(tokens, lex.Token{Kind: r.IntN(6) - 1, Text: texts[r.IntN(len(texts))], Pos: posOf(len(tokens))})
		}
		list, pos, err := parse.Parse(tokens...)
		if len(tokens) == 0 {
			continue
		}
		isOne := false
		for _, token := range tokens {
			isOne = isOne || token.Pos == pos
		}
		if (err != api.OK) != isOne || err != api.OK && len(list) > 0 {
			t.Fatalf("P10.2: %q: %d modules, error %d at %v", textOf(tokens), len(list), err, pos)
		}
	}
}

// TestP10_2OddPositions has tokens at positions that no file has.
func TestP10_2OddPositions(t *testing.T) {
	tokens := scan(t, "module m ( ) ; wire 9 ; endmodule")
	for i := range tokens {
		tokens[i].Pos = api.Pos{File: -i, Line: 1 << 62, Col: -1 << 62}
	}
	mustReject(t, api.ErrForm, 6, tokens)
	mustReject(t, api.ErrEnd, 5, tokens[:6])
}
