package parse_test

import (
	"fmt"
	"slices"
	"strings"
	"testing"

	"sluicegate/api"
	"sluicegate/ast"
	"sluicegate/lex"
	"sluicegate/parse"
	"sluicegate/pre"
)

// scan returns the tokens of a text, whose positions are their numbers in it.
// There may be more than Lex accepts.
func scan(t *testing.T, text string) []lex.Token {
	t.Helper()
	var all []lex.Token
	for words := range slices.Chunk(strings.Fields(text), 1000) {
		list, pos, err := lex.Lex(pre.Piece{Text: strings.Join(words, " ")})
		if err != api.OK {
			t.Fatalf("Lex(%q): error %d at %v", short(text), err, pos)
		}
		all = append(all, list...)
	}
	return number(all)
}

// number returns tokens whose positions are their numbers, from 1 on.
func number(tokens []lex.Token) []lex.Token {
	list := make([]lex.Token, len(tokens))
	for i, token := range tokens {
		list[i] = token
		list[i].Pos = posOf(i)
	}
	return list
}

// posOf returns the position of a token, counted from 0.
func posOf(index int) api.Pos { return api.Pos{File: 1, Line: 2, Col: index + 1} }

// textOf is what tokens are, for messages and comparisons.
func textOf(tokens []lex.Token) string { return lex.Text(tokens...) }

// short is a part of a text, for messages.
func short(text string) string {
	const most = 1500
	if len(text) <= most {
		return text
	}
	return text[:most/2] + " ... " + text[len(text)-most/2:]
}

// show writes a tree with its positions. It does not distinguish nil from empty
// lists.
func show(list []ast.Module) string { return fmt.Sprintf("%+v", list) }

// mustRead returns the modules of a text, and fails if it has an error.
func mustRead(t *testing.T, promise, text string) []ast.Module {
	t.Helper()
	list, pos, err := parse.Parse(scan(t, text)...)
	if err != api.OK || pos != (api.Pos{}) {
		t.Fatalf("%s: %s: error %d at %v", promise, short(text), err, pos)
	}
	return list
}

// mustReject fails unless the tokens have that error at one of them, and no
// modules with it.
func mustReject(t *testing.T, want api.Errno, index int, tokens []lex.Token) {
	t.Helper()
	list, pos, err := parse.Parse(tokens...)
	if len(list) > 0 || err != want || pos != tokens[index].Pos {
		t.Errorf("P10.2: %s: %d modules, error %d at %v; want error %d at %v", short(textOf(tokens)), len(list), err, pos, want, tokens[index].Pos)
	}
}

// mustRejectText fails unless the text has that error at the token before which
// it is marked by «.
func mustRejectText(t *testing.T, want api.Errno, marked string) {
	t.Helper()
	before, after, found := strings.Cut(marked, "«")
	if !found {
		t.Fatalf("%q has no mark", marked)
	}
	mustReject(t, want, len(scan(t, before)), scan(t, before+after))
}

// wordsOf returns the Text of modules without its division into lines.
func wordsOf(list []ast.Module) string { return strings.Join(strings.Fields(ast.Text(list...)), " ") }

// valueOf returns the expression that a text is.
func valueOf(t *testing.T, promise, text string) ast.Expr {
	t.Helper()
	list := mustRead(t, promise, "module m ( ) ; assign y = "+text+" ; endmodule")
	return list[0].Items[0].Exprs[1]
}

// group writes an expression with parentheses around each operation.
func group(e ast.Expr) string {
	args := make([]string, len(e.Args))
	for i, arg := range e.Args {
		args[i] = group(arg)
	}
	switch e.Kind {
	case ast.Un:
		return "(" + e.Text + args[0] + ")"
	case ast.Bin:
		return "(" + args[0] + e.Text + args[1] + ")"
	case ast.Cond:
		return "(" + args[0] + "?" + args[1] + ":" + args[2] + ")"
	case ast.Cat:
		return "{" + strings.Join(args, ",") + "}"
	case ast.Rep:
		return "{" + args[0] + "{" + strings.Join(args[1:], ",") + "}}"
	case ast.Index, ast.Range:
		return e.Text + "[" + strings.Join(args, ":") + "]"
	case ast.Call:
		return e.Text + "(" + strings.Join(args, ",") + ")"
	}
	return e.Text
}
