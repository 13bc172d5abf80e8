package parse_test

import (
	"math/rand/v2"
	"slices"
	"testing"

	"sluicegate/api"
	"sluicegate/ast"
	"sluicegate/lex"
	"sluicegate/parse"
)

// mustParse fails unless the tokens are these modules, or have the error that
// the maker expects. It returns whether they are.
func mustParse(t *testing.T, promise string, m *maker, want []ast.Module) bool {
	t.Helper()
	switch {
	case m.tooDeep >= 0 && m.hasGenerate: // the chapter does not say clearly whether that is one of those nested
		return false
	case m.tooDeep >= 0:
		mustReject(t, api.ErrDeep, m.tooDeep, m.tokens)
		return false
	}
	got, pos, err := parse.Parse(m.tokens...)
	if err != api.OK || pos != (api.Pos{}) || !ast.Same(got, want) || show(got) != show(want) {
		t.Fatalf("%s: %s: error %d at %v:\n%s\nnot\n%s", promise, short(textOf(m.tokens)), err, pos, short(show(got)), short(show(want)))
	}
	return true
}

// mustReadAgain fails unless the text of modules has the same tree, or is
// nested too deeply. It returns whether it has.
func mustReadAgain(t *testing.T, promise string, want []ast.Module) bool {
	t.Helper()
	text := ast.Text(want...)
	list, _, err := parse.Parse(scan(t, text)...)
	if written(want) > api.MaxDeep {
		if len(list) > 0 || err != api.ErrDeep {
			t.Fatalf("%s: %s: error %d", promise, short(text), err)
		}
		return false
	}
	if err != api.OK || !ast.Same(list, want) {
		t.Fatalf("%s: the text %s has another tree, or error %d", promise, short(text), err)
	}
	return true
}

// TestP10_1SomeTrees writes trees, and reads them back. Their texts are also
// made by the maker.
func TestP10_1SomeTrees(t *testing.T) {
	r := rand.New(rand.NewPCG(10, 1))
	read := 0
	for i := range 6000 {
		m := newMaker(r, true, 10+i%200, 2+i%3)
		want := m.modules(3)
		if got := wordsOf(want); got != textOf(m.tokens) {
			t.Fatalf("P9.1: the text is\n%s\nnot\n%s", short(got), short(textOf(m.tokens)))
		}
		if mustParse(t, "P10.1", m, want) != mustReadAgain(t, "P10.1", want) {
			t.Fatalf("P10.1: %s: the tokens and the text differ", short(textOf(m.tokens)))
		}
		if m.tooDeep < 0 {
			read += len(m.tokens)
		}
	}
	if read < 300000 {
		t.Errorf("P10.1: only %d tokens", read)
	}
}

// TestP10_2SomeSources reads sources that are not written as Text writes them.
func TestP10_2SomeSources(t *testing.T) {
	r := rand.New(rand.NewPCG(10, 2))
	read, again := 0, 0
	for i := range 6000 {
		m := newMaker(r, false, 10+i%200, 2+i%3)
		want := m.modules(3)
		if mustParse(t, "P10.2", m, want) {
			read++
			if mustReadAgain(t, "P10.2", want) {
				again++
			}
		}
	}
	if read < 4000 || again < 3000 {
		t.Errorf("P10.2: %d sources are read, and %d of their texts", read, again)
	}
}

// TestP10_2SomeDeepSources has sources of which most are nested too deeply.
func TestP10_2SomeDeepSources(t *testing.T) {
	r := rand.New(rand.NewPCG(10, 3))
	counts := map[bool]int{}
	for range 3000 {
		m := newMaker(r, r.IntN(2) == 0, 400, 12)
		want := m.modules(2)
		counts[mustParse(t, "P10.2", m, want)]++
	}
	if counts[true] < 500 || counts[false] < 500 {
		t.Errorf("P10.2: the depths are not diverse: %v", counts)
	}
}

// TestP10_2ArgumentsAreOnlyRead compares the tokens and what is behind them
// before and after, and overwrites a result.
func TestP10_2ArgumentsAreOnlyRead(t *testing.T) {
	r := rand.New(rand.NewPCG(10, 4))
	for range 200 {
		m := newMaker(r, false, 60, 3)
		m.modules(2)
		whole := append(slices.Clone(m.tokens), lex.Token{Kind: lex.Name, Text: "behind"}, lex.Token{})
		before := slices.Clone(whole)
		first, _, _ := parse.Parse(whole[:len(m.tokens)]...)
		shown := show(first)
		for i := range first {
			first[i].Items = nil
		}
		second, _, _ := parse.Parse(whole[:len(m.tokens)]...)
		if !slices.Equal(whole, before) || show(second) != shown {
			t.Fatalf("P10.2: %s: the tokens or the second result differ", short(textOf(before)))
		}
	}
}

// TestP10_1NoTokens reads sources that are empty.
func TestP10_1NoTokens(t *testing.T) {
	for _, tokens := range [][]lex.Token{nil, {}} {
		if list, pos, err := parse.Parse(tokens...); len(list) > 0 || pos != (api.Pos{}) || err != api.OK {
			t.Errorf("P10.1: no tokens: %v, error %d at %v", list, err, pos)
		}
	}
}
