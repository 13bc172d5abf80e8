package lex_test

import (
	"math"
	"slices"
	"strings"
	"testing"

	"sluicegate/api"
	"sluicegate/lex"
	"sluicegate/lit"
	"sluicegate/pre"
)

func TestP8_1Kinds(t *testing.T) {
	if lex.Name != 1 || lex.Number != 2 || lex.Sign != 3 {
		t.Errorf("P8.1: the kinds are %d, %d, %d", lex.Name, lex.Number, lex.Sign)
	}
	at := func(col int) api.Pos { return api.Pos{File: 3, Line: 5, Col: col} }
	mustRead(t, []lex.Token{
		{Kind: lex.Name, Text: "a", Pos: at(7)}, {Kind: lex.Sign, Text: "<=", Pos: at(8)}, {Kind: lex.Number, Text: "8'hF", Pos: at(10)},
		{Kind: lex.Sign, Text: "+", Pos: at(14)}, {Kind: lex.Name, Text: "b", Pos: at(15)}, {Kind: lex.Sign, Text: ";", Pos: at(16)},
	}, piece("a<=8'hF+b;"))
	mustRead(t, nil)
	mustRead(t, nil, pre.Piece{})
	mustRead(t, nil, piece(""), fixed(""), piece(" \t\r\n"), fixed("\n\n "))
}

func TestP8_1Names(t *testing.T) {
	longest := strings.Repeat("n", api.MaxName)
	for text, want := range map[string][]string{
		"a":                       {"a"},
		"_":                       {"_"},
		"z9_Z":                    {"z9_Z"},
		"module endmodule":        {"module", "endmodule"},
		"$a":                      {"$a"},
		"$_":                      {"$_"},
		"$9":                      {"$9"},
		"$clog2":                  {"$clog2"},
		"a$b":                     {"a", "$b"},
		"a$b$9_$_":                {"a", "$b", "$9_", "$_"},
		"A\tB\rC\nD":              {"A", "B", "C", "D"},
		longest:                   {longest},
		longest + " " + longest:   {longest, longest},
		"$" + longest[1:]:         {"$" + longest[1:]},
		"\n" + longest + "$a\n\n": {longest, "$a"},
		"_" + longest[2:] + "9":   {"_" + longest[2:] + "9"},
	} {
		mustSplit(t, lex.Name, text, want...)
	}
	for _, text := range []string{"$", "$ a", "$$a", "$+", "$\n", "$'h1", "$;", longest + "n", longest + "_", longest + "9+", "$" + longest, strings.Repeat("n", 3000)} {
		mustRejectText(t, api.ErrName, 0, text)
		mustRejectText(t, api.ErrName, 4, "a \n+"+text)
		mustReject(t, api.ErrName, start, piece("x"), fixed("x"), fixed("b+"+text))
	}
}

func TestP8_1Numbers(t *testing.T) {
	for text, want := range map[string][]string{
		"0":                    {"0"},
		"0017":                 {"0017"},
		"1_000_":               {"1_000_"},
		"2147483647":           {"2147483647"},
		"8'hF":                 {"8'hF"},
		"8'sHf_F":              {"8'sHf_F"},
		"1_6'd9":               {"1_6'd9"},
		"'b1":                  {"'b1"},
		"'d0'd1":               {"'d0", "'d1"},
		"1 2":                  {"1", "2"},
		"4 'b1":                {"4", "'b1"},
		"4'b1'b1":              {"4'b1", "'b1"},
		"4'b1 4'b0":            {"4'b1", "4'b0"},
		"128'h" + zeros(300):   {"128'h" + zeros(300)},
		zeros(300) + "1'b1 1":  {zeros(300) + "1'b1", "1"},
		"3'd9\n3'o777\t'sb1_1": {"3'd9", "3'o777", "'sb1_1"},
	} {
		mustSplit(t, lex.Number, text, want...)
	}
	for _, text := range []string{
		"'", "4'", "4' b1", "''b1", "4''b1", "4'q", "4'b", "4'sb", "4'b2", "4'b12", "4'_", "4'b_1", "4'x", "4'bx", "4'hg", "4'hfg", "4'b1z",
		"'h_", "'9", "'_9", "'a", "4'ss", "4'b1a+1", "4's1", "0'b1", "00_'b1", "129'b1", "999999999999'b1", "2147483648", "99999999999999999999", "4'b$1",
	} {
		mustRejectText(t, api.ErrLex, 0, text)
		mustRejectText(t, api.ErrLex, 3, "a\n "+text)
	}
}

func zeros(count int) string { return strings.Repeat("0", count) }

// TestP8_1NumbersAndNames has tokens of both kinds without blanks between them.
func TestP8_1NumbersAndNames(t *testing.T) {
	for text, want := range map[string]string{
		"12abc": "12 abc", "1_a": "1_ a", "a1": "a1", "a'b1": "a 'b1", "_1'b1": "_1 'b1", "8'hF$a": "8'hF $a", "9$9": "9 $9", "$9'd1": "$9 'd1",
		"1.5": "1 . 5", "-1": "- 1", "1e5": "1 e5", "0x1F": "0 x1F", "4'b1.b": "4'b1 . b", "a.b": "a . b", "#1": "# 1", "@a": "@ a",
	} {
		list, _, err := lex.Lex(piece(text))
		if got := lex.Text(list...); got != want || err != api.OK {
			t.Errorf("P8.1: %q: %q, error %d", text, got, err)
		}
	}
}

// allSigns are the signs in the order of the chapter.
var allSigns = strings.Fields("<<< >>> << >> <= >= == != && || ~& ~| ~^ ^~ + - * / % & | ^ ~ ! < > ? : = ( ) [ ] { } ; , . # @")

func TestP8_1Signs(t *testing.T) {
	for _, a := range allSigns {
		mustSplit(t, lex.Sign, a, a)
		mustSplit(t, lex.Sign, "\n"+a+"\t"+a+" ", a, a)
		for _, b := range allSigns {
			mustSplit(t, lex.Sign, a+" "+b, a, b)
			mustSplit(t, lex.Sign, a+b, longestSigns(a+b)...)
			mustSplit(t, lex.Sign, a+b+a, longestSigns(a+b+a)...)
		}
		for _, other := range []string{"a", "_", "$a", "9", "'b1", "4'b1"} {
			mustRead(t, []lex.Token{
				{Kind: kindOf(other), Text: other, Pos: start}, {Kind: lex.Sign, Text: a, Pos: shift(other+a, len(other))},
				{Kind: kindOf(other), Text: other, Pos: shift(other+a, len(other+a))},
			}, piece(other+a+other))
		}
	}
	for text, want := range map[string]string{
		"<<<<": "<<< <", "<<<<<": "<<< <<", "<<=": "<< =", "<<<=": "<<< =", ">>>=": ">>> =", "===": "== =", "!==": "!= =", "====": "== ==", "=<": "= <",
		"<>": "< >", "&&&": "&& &", "|||": "|| |", "~&&": "~& &", "~~&": "~ ~&", "~^~": "~^ ~", "^~^": "^~ ^", "^~&": "^~ &", "~~^~": "~ ~^ ~", "**": "* *",
		"<<<<<<": "<<< <<<", "+++": "+ + +", "/": "/", "!~|": "! ~|", "<=>=": "<= >=", "(*)": "( * )", ".#(": ". # (", "@(": "@ (", "{{}}": "{ { } }",
	} {
		list, _, err := lex.Lex(piece(text))
		if got := lex.Text(list...); got != want || err != api.OK {
			t.Errorf("P8.1: %q: %q, error %d", text, got, err)
		}
	}
}

// longestSigns divides a text into signs, each as long as possible.
func longestSigns(text string) []string {
	for length := 3; length > 0; length-- {
		if length <= len(text) && slices.Contains(allSigns, text[:length]) {
			return append([]string{text[:length]}, longestSigns(text[length:])...)
		}
	}
	return nil
}

func kindOf(text string) int {
	switch {
	case text[0] == '\'' || '0' <= text[0] && text[0] <= '9':
		return lex.Number
	case slices.Contains(allSigns, text):
		return lex.Sign
	}
	return lex.Name
}

// TestP8_1EveryByte has each byte alone, and after tokens.
func TestP8_1EveryByte(t *testing.T) {
	for c := range 256 {
		text := string([]byte{byte(c)})
		switch {
		case strings.Contains(" \t\r\n", text):
			mustSplit(t, lex.Name, text+"a"+text+"b"+text, "a", "b")
		case strings.Contains("$", text):
			mustRejectText(t, api.ErrName, 0, text)
		case c >= 'a' && c <= 'z' || c >= 'A' && c <= 'Z' || c == '_':
			mustSplit(t, lex.Name, text+" "+text+text+" a"+text, text, text+text, "a"+text)
		case c >= '0' && c <= '9':
			mustSplit(t, lex.Number, text+" "+text+text+" 1"+text, text, text+text, "1"+text)
		case slices.Contains(allSigns, text):
			mustSplit(t, lex.Sign, text+" "+text, text, text)
		default:
			mustRejectText(t, api.ErrLex, 0, text)
			mustRejectText(t, api.ErrLex, 1, "a"+text)
			mustRejectText(t, api.ErrLex, 8, "a\n+ 4'b1"+text+"b")
			mustReject(t, api.ErrLex, start, piece("a"), fixed("a\n"+text))
		}
	}
}

func TestP8_1Pieces(t *testing.T) {
	other := api.Pos{File: 1, Line: 1, Col: 1}
	second := func(text string, fixed bool) pre.Piece { return pre.Piece{Text: text, Pos: other, Fixed: fixed} }
	for _, first := range []struct{ a, b string }{
		{"a", "b"}, {"1", "2"}, {"<", "="}, {"<", "<"}, {"4", "'b1"}, {"$a", "9"}, {"~", "^"}, {"4'b1", "0"}, {"a", "$b"}, {">>", ">"},
	} {
		for _, isFixed := range []bool{false, true} {
			mustRead(t, []lex.Token{{Kind: kindOf(first.a), Text: first.a, Pos: start}, {Kind: kindOf(first.b), Text: first.b, Pos: other}},
				pre.Piece{Text: first.a, Pos: start, Fixed: isFixed}, second(first.b, !isFixed))
		}
	}
	mustReject(t, api.ErrLex, start, piece("4'"), second("b1", false))
	mustReject(t, api.ErrName, start, piece("$"), second("a", false))
	mustReject(t, api.ErrLex, other, second("\"", true), piece("$"))
	at := func(line, col int) api.Pos { return api.Pos{File: 3, Line: line, Col: col} }
	mustRead(t, []lex.Token{{Kind: lex.Name, Text: "a", Pos: at(5, 7)}, {Kind: lex.Name, Text: "b", Pos: at(6, 3)}, {Kind: lex.Name, Text: "c", Pos: at(8, 1)}, {Kind: lex.Name, Text: "d", Pos: at(8, 3)}},
		piece("a\n\r\tb\n\nc d\n"))
	mustRead(t, []lex.Token{{Kind: lex.Name, Text: "a", Pos: start}, {Kind: lex.Name, Text: "b", Pos: start}, {Kind: lex.Name, Text: "c", Pos: start}}, fixed(" a\n\r\tb\n\nc"))
}

// TestP8_1AllPositions has pieces at positions that no file has.
func TestP8_1AllPositions(t *testing.T) {
	for _, n := range []int{math.MinInt, -1, 0, math.MaxInt} {
		p := api.Pos{File: n, Line: n, Col: n}
		mustRead(t, []lex.Token{{Kind: lex.Name, Text: "a", Pos: p}, {Kind: lex.Sign, Text: "+", Pos: p}, {Kind: lex.Sign, Text: "-", Pos: p}},
			pre.Piece{Text: "a+\n-", Pos: p, Fixed: true})
		mustReject(t, api.ErrLex, p, pre.Piece{Text: "`\n", Pos: p})
		mustRead(t, []lex.Token{{Kind: lex.Sign, Text: "+", Pos: api.Pos{File: n, Line: n + 1, Col: 1}}}, pre.Piece{Text: "\n+", Pos: p})
	}
}

func TestP8_1Limit(t *testing.T) {
	const most = api.MaxTokens
	full := strings.Repeat("a 1+", most/3)
	list, pos, err := lex.Lex(piece(full))
	if len(list) != most || pos != (api.Pos{}) || err != api.OK {
		t.Errorf("P8.1: %d tokens, error %d at %v", len(list), err, pos)
	}
	if list, _, err := lex.Lex(piece(full+" \n\t"), fixed("\n"), piece("")); len(list) != most || err != api.OK {
		t.Errorf("P8.1: with blanks after them: %d tokens, error %d", len(list), err)
	}
	for _, tail := range []string{"b", "1", "+", "4'b1", "b \"", "+ $", "1 'q", strings.Repeat("b", api.MaxName), "b b b", strings.Repeat("+", most)} {
		mustRejectText(t, api.ErrLimit, len(full)+2, full+"\n "+tail)
		mustReject(t, api.ErrLimit, start, piece(full), fixed("\n"+tail))
	}
	for tail, want := range map[string]api.Errno{"\"": api.ErrLex, "'": api.ErrLex, "4'q b": api.ErrLex, "$": api.ErrName, strings.Repeat("b", api.MaxName+1): api.ErrName} {
		mustRejectText(t, want, len(full)+2, full+"\n "+tail)
		mustRejectText(t, want, len(full), full[:len(full)-1]+" "+tail+" b b b")
	}
	pieces := slices.Repeat([]pre.Piece{fixed("(")}, most+1)
	if list, _, err := lex.Lex(pieces[:most]...); len(list) != most || err != api.OK {
		t.Errorf("P8.1: %d pieces: %d tokens, error %d", most, len(list), err)
	}
	mustReject(t, api.ErrLimit, start, pieces...)
}

func TestP8_1FirstError(t *testing.T) {
	for _, x := range []struct {
		text   string
		offset int
		want   api.Errno
	}{
		{"a ` $", 2, api.ErrLex}, {"a $ `", 2, api.ErrName}, {"$ 4'q", 0, api.ErrName}, {"4'q $", 0, api.ErrLex}, {"`$", 0, api.ErrLex}, {"$`", 0, api.ErrName},
		{"b \\ " + strings.Repeat("a", 41), 2, api.ErrLex}, {strings.Repeat("a", 41) + "\"", 0, api.ErrName}, {"\n\n0'b1`", 2, api.ErrLex},
	} {
		mustRejectText(t, x.want, x.offset, x.text)
		mustReject(t, x.want, shift(x.text, x.offset), piece("+"), piece(x.text), fixed("'"))
	}
}

// TestP8_1NumbersAsInLayer2 accepts the numbers that Parse accepts.
func TestP8_1NumbersAsInLayer2(t *testing.T) {
	const alphabet = "019_'sbdhfx"
	var visit func(text string, left int)
	visit = func(text string, left int) {
		if _, err := lit.Parse(text); err == api.OK {
			mustSplit(t, lex.Number, text, text)
		} else if text[0] != '_' && strings.Count(text, "'") == 1 && (text[0] == '\'' || strings.Trim(strings.Split(text, "'")[0], "0123456789_") == "") {
			mustRejectText(t, api.ErrLex, 0, text)
		}
		for i := 0; i < len(alphabet) && left > 0; i++ {
			visit(text+alphabet[i:i+1], left-1)
		}
	}
	for _, first := range []string{"0", "1", "9", "'"} {
		visit(first, 4)
	}
}

func TestP8_1Text(t *testing.T) {
	for want, list := range map[string][]lex.Token{
		"":           nil,
		"a":          {{Kind: lex.Name, Text: "a"}},
		"a + 4'b1 ;": {{Text: "a"}, {Text: "+", Pos: start}, {Kind: lex.Number, Text: "4'b1"}, {Kind: -1, Text: ";"}},
		"  ":         {{}, {}, {}},
		"\n \xff a ": {{Text: "\n"}, {Text: "\xff"}, {Text: "a"}, {}},
		"a b  c":     {{Text: "a b"}, {}, {Text: "c"}},
	} {
		if got := lex.Text(list...); got != want {
			t.Errorf("P8.1: Text of %v: %q, want %q", list, got, want)
		}
	}
	if got := lex.Text(lex.Token{}); got != "" {
		t.Errorf("P8.1: Text of a zero token: %q", got)
	}
}
