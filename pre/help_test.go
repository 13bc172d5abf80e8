package pre_test

import (
	"strconv"
	"strings"
	"testing"

	"sluicegate/api"
	"sluicegate/pre"
	"sluicegate/src"
)

// table returns a table of files with these texts, named a, b and so on.
func table(t *testing.T, texts ...string) *src.Table {
	t.Helper()
	var files []src.File
	for i, text := range texts {
		files = append(files, src.File{Name: string(rune('a' + i)), Text: text})
	}
	x, err := src.New(files...)
	if err != api.OK {
		t.Fatalf("New: error %d", err)
	}
	return x
}

// show writes the position and the text of each piece, and a ! between them if
// it is Fixed.
func show(pieces []pre.Piece) string {
	var list []string
	for _, p := range pieces {
		mark := ""
		if p.Fixed {
			mark = "!"
		}
		list = append(list, showPos(p.Pos)+mark+" "+strconv.Quote(p.Text))
	}
	return strings.Join(list, " ")
}

func showPos(p api.Pos) string {
	return strconv.Itoa(p.File) + ":" + strconv.Itoa(p.Line) + ":" + strconv.Itoa(p.Col)
}

// short is a text for messages.
func short(texts ...string) string {
	all := ""
	for _, text := range texts {
		all += " " + strconv.Quote(text[:min(len(text), 200)])
	}
	return all
}

// mustExpand fails unless these files, named a, b and so on, have the pieces
// that show writes in that way.
func mustExpand(t *testing.T, want string, texts ...string) {
	t.Helper()
	pieces, pos, err := pre.Expand(table(t, texts...), "a")
	if got := show(pieces); got != want || pos != (api.Pos{}) || err != api.OK {
		t.Errorf("P7.1:%s: %s, error %d at %s; want %s", short(texts...), got, err, showPos(pos), want)
	}
}

// mustReject fails unless Expand returns that error at that position, and no
// pieces with it.
func mustReject(t *testing.T, want api.Errno, at string, texts ...string) {
	t.Helper()
	pieces, pos, err := pre.Expand(table(t, texts...), "a")
	if pieces != nil || showPos(pos) != at || err != want {
		t.Errorf("P7.1:%s: %d pieces, error %d at %s; want %d at %s", short(texts...), len(pieces), err, showPos(pos), want, at)
	}
}

// mustHaveText fails unless the pieces of the files have that text together.
func mustHaveText(t *testing.T, want string, texts ...string) {
	t.Helper()
	pieces, _, err := pre.Expand(table(t, texts...), "a")
	if got := textOf(pieces); got != want || err != api.OK {
		t.Errorf("P7.1:%s: %s, error %d; want %s", short(texts...), short(got), err, short(want))
	}
}

func textOf(pieces []pre.Piece) string {
	all := ""
	for _, p := range pieces {
		all += p.Text
	}
	return all
}
