package lex_test

import (
	"slices"
	"strconv"
	"testing"

	"sluicegate/api"
	"sluicegate/lex"
	"sluicegate/pre"
)

// start is where the text of a piece begins in most tests.
var start = api.Pos{File: 3, Line: 5, Col: 7}

// shift returns the position of a byte of a text that begins at start.
func shift(text string, offset int) api.Pos {
	p := start
	for _, c := range []byte(text[:offset]) {
		p.Col++
		if c == '\n' {
			p.Line, p.Col = p.Line+1, 1
		}
	}
	return p
}

// short is the texts of pieces, for messages.
func short(pieces ...pre.Piece) string {
	all := ""
	for _, p := range pieces[:min(len(pieces), 10)] {
		all += " " + strconv.Quote(p.Text[:min(len(p.Text), 100)])
	}
	return all
}

// mustRead fails unless these are the tokens of the pieces.
func mustRead(t *testing.T, want []lex.Token, pieces ...pre.Piece) {
	t.Helper()
	got, pos, err := lex.Lex(pieces...)
	if !slices.Equal(got, want) || pos != (api.Pos{}) || err != api.OK {
		t.Errorf("P8.1:%s: %v, error %d at %v; want %v", short(pieces...), got, err, pos, want)
	}
}

// mustReject fails unless Lex returns that error at that position, and no tokens
// with it.
func mustReject(t *testing.T, want api.Errno, at api.Pos, pieces ...pre.Piece) {
	t.Helper()
	got, pos, err := lex.Lex(pieces...)
	if got != nil || pos != at || err != want {
		t.Errorf("P8.1:%s: %d tokens, error %d at %v; want error %d at %v", short(pieces...), len(got), err, pos, want, at)
	}
}

// mustRejectText fails unless the text has that error at that offset.
func mustRejectText(t *testing.T, want api.Errno, offset int, text string) {
	t.Helper()
	mustReject(t, want, shift(text, offset), piece(text))
}

func piece(text string) pre.Piece { return pre.Piece{Text: text, Pos: start} }

func fixed(text string) pre.Piece { return pre.Piece{Text: text, Pos: start, Fixed: true} }

// mustSplit fails unless the text consists of tokens of one kind with these
// texts, with blanks between them or nothing.
func mustSplit(t *testing.T, kind int, text string, want ...string) {
	t.Helper()
	list, pos, err := lex.Lex(piece(text))
	if pos != (api.Pos{}) || err != api.OK {
		t.Errorf("P8.1: %q: error %d at %v", text, err, pos)
	}
	if got := textsOf(list); !slices.Equal(got, want) {
		t.Errorf("P8.1: %q: %q, want %q", text, got, want)
	}
	for _, token := range list {
		if token.Kind != kind {
			t.Errorf("P8.1: %q: %q has kind %d, not %d", text, token.Text, token.Kind, kind)
		}
	}
}

func textsOf(list []lex.Token) []string {
	var texts []string
	for _, token := range list {
		texts = append(texts, token.Text)
	}
	return texts
}

// numbered returns names that differ.
func numbered(count int) []lex.Token {
	var list []lex.Token
	for i := range count {
		list = append(list, lex.Token{Kind: lex.Name, Text: "n" + strconv.Itoa(i)})
	}
	return list
}
