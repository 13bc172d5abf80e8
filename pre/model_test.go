package pre_test

import (
	"math/rand/v2"
	"regexp"
	"slices"
	"strings"
	"testing"

	"sluicegate/api"
	"sluicegate/pre"
)

// model does what the chapter says byte by byte, with expressions in place of a
// scanner.
type model struct {
	texts  []string
	macros map[string]string
	pieces []pre.Piece
	opened bool // whether the last piece may be continued
	size   int
}

// failure is what the model panics with.
type failure struct {
	pos api.Pos
	err api.Errno
}

var (
	comments   = regexp.MustCompile(`(?s)//[^\n]*|/\*.*?\*/|/\*`)
	directives = regexp.MustCompile("^[ \t\r]*`(define|undef|ifdef|ifndef|else|endif|include)($|[^A-Za-z0-9_].*$)")
	definition = regexp.MustCompile("^[ \t\r]+([A-Za-z_][A-Za-z0-9_]{0,39})($|[ \t\r].*$)")
	oneName    = regexp.MustCompile("^[ \t\r]+([A-Za-z_][A-Za-z0-9_]{0,39})[ \t\r]*$")
	nothing    = regexp.MustCompile("^[ \t\r]*$")
	quoted     = regexp.MustCompile("^[ \t\r]*\"([^\"]*)\"[ \t\r]*$")
	word       = regexp.MustCompile("^[A-Za-z_][A-Za-z0-9_]*")
)

// expected is what Expand has to return for the first of the files.
func expected(texts ...string) (pieces []pre.Piece, pos api.Pos, err api.Errno) {
	m := &model{texts: texts, macros: map[string]string{}}
	defer func() {
		if f, failed := recover().(failure); failed {
			pieces, pos, err = nil, f.pos, f.err
		}
	}()
	m.file(1, 1, api.Pos{})
	return m.pieces, api.Pos{}, api.OK
}

// put adds a part, which continues the last piece if that is opened.
func (m *model) put(text string, pos api.Pos, fixed bool) {
	m.size += len(text)
	if m.size > maxSize {
		panic(failure{pos, api.ErrSize})
	}
	last := len(m.pieces) - 1
	switch {
	case text == "":
	case !fixed && m.opened:
		m.pieces[last].Text += text
	default:
		m.pieces = append(m.pieces, pre.Piece{Text: text, Pos: pos, Fixed: fixed})
		m.opened = !fixed
	}
}

func (m *model) file(number, depth int, from api.Pos) {
	if depth > 8 {
		panic(failure{from, api.ErrDeep})
	}
	text := m.texts[number-1]
	for _, place := range comments.FindAllStringIndex(text, -1) {
		before, comment, after := text[:place[0]], text[place[0]:place[1]], text[place[1]:]
		if comment == "/*" {
			col := len(before) - strings.LastIndex(before, "\n")
			panic(failure{api.Pos{File: number, Line: 1 + strings.Count(before, "\n"), Col: col}, api.ErrEnd})
		}
		spaced := []byte(comment)
		for i, c := range spaced {
			if c != '\n' {
				spaced[i] = ' '
			}
		}
		text = before + string(spaced) + after
	}
	m.opened = false
	var blocks []modelBlock
	lines := strings.Split(text, "\n")
	for i, line := range lines {
		blocks = m.line(line, api.Pos{File: number, Line: i + 1, Col: 1}, depth, blocks)
		if allActive(blocks) && i < len(lines)-1 {
			m.put("\n", api.Pos{File: number, Line: i + 1, Col: len(line) + 1}, false)
		}
	}
	if len(blocks) > 0 {
		panic(failure{blocks[len(blocks)-1].pos, api.ErrEnd})
	}
	m.opened = false
}

type modelBlock struct {
	pos           api.Pos
	holds, turned bool
}

func allActive(blocks []modelBlock) bool {
	return !slices.ContainsFunc(blocks, func(b modelBlock) bool { return b.holds == b.turned })
}

func (m *model) line(line string, pos api.Pos, depth int, blocks []modelBlock) []modelBlock {
	found := directives.FindStringSubmatch(line)
	isCondition := found != nil && slices.Contains([]string{"ifdef", "ifndef", "else", "endif"}, found[1])
	if !allActive(blocks) && !isCondition {
		return blocks
	}
	if found == nil {
		m.uses(line, pos)
		return blocks
	}
	m.opened = false
	pos.Col += strings.Index(line, "`")
	form := map[string]*regexp.Regexp{"define": definition, "include": quoted, "else": nothing, "endif": nothing}[found[1]]
	if form == nil {
		form = oneName
	}
	parts := form.FindStringSubmatch(found[2])
	last := len(blocks) - 1
	if parts == nil || form == nothing && (last < 0 || found[1] == "else" && blocks[last].turned) {
		panic(failure{pos, api.ErrForm})
	}
	switch found[1] {
	case "define":
		m.macros[parts[1]] = strings.Trim(parts[2], " \t\r")
	case "undef":
		delete(m.macros, parts[1])
	case "include":
		if len(parts[1]) != 1 || parts[1][0] < 'a' || int(parts[1][0]-'a') >= len(m.texts) {
			panic(failure{pos, api.ErrName})
		}
		m.file(int(parts[1][0]-'a')+1, depth+1, pos)
	case "else":
		blocks[last].turned = true
	case "endif":
		return blocks[:last]
	default:
		_, defined := m.macros[parts[1]]
		return append(blocks, modelBlock{pos: pos, holds: defined == (found[1] == "ifdef")})
	}
	return blocks
}

// uses adds a line with macro bodies.
func (m *model) uses(line string, pos api.Pos) {
	before, after, used := strings.Cut(line, "`")
	m.put(before, pos, false)
	if !used {
		return
	}
	m.opened = false
	pos.Col += len(before)
	name := word.FindString(after)
	m.body(name, pos, 1)
	pos.Col += 1 + len(name)
	m.uses(after[len(name):], pos)
}

func (m *model) body(name string, pos api.Pos, depth int) {
	body, defined := m.macros[name]
	switch {
	case name == "" || len(name) > 40:
		panic(failure{pos, api.ErrForm})
	case !defined:
		panic(failure{pos, api.ErrName})
	case depth > 8:
		panic(failure{pos, api.ErrDeep})
	}
	for i, part := range strings.Split(body, "`") {
		if i > 0 {
			inner := word.FindString(part)
			m.body(inner, pos, depth+1)
			part = part[len(inner):]
		}
		m.put(part, pos, true)
	}
}

// mustAgree fails unless Expand returns what the model does.
func mustAgree(t *testing.T, texts ...string) api.Errno {
	t.Helper()
	pieces, pos, err := pre.Expand(table(t, texts...), "a")
	want, wantPos, wantErr := expected(texts...)
	if !slices.Equal(pieces, want) || pos != wantPos || err != wantErr {
		t.Errorf("P7.1: %s: %s, error %d at %s; want %s, error %d at %s", short(texts...), show(pieces), err, showPos(pos), show(want), wantErr, showPos(wantPos))
	}
	return err
}

// TestP7_1AllShortTexts has all texts of up to four of these parts.
func TestP7_1AllShortTexts(t *testing.T) {
	parts := []string{"\n", "`", "A", " ", "`define A", "`ifdef A\n", "`else", "\n`endif\n", "/*", "*/", "//", "x`A", "`undef A\n", "\"b\"", "`include"}
	var visit func(text string, left int)
	visit = func(text string, left int) {
		mustAgree(t, text, ".`A\n`define A y\n")
		for _, part := range parts {
			if left > 0 && !t.Failed() {
				visit(text+part, left-1)
			}
		}
	}
	visit("", 4)
	visit("`define A 1`B\n`define B 2\n", 3)
}

// someText returns lines at random. Few of them contain an error.
func someText(r *rand.Rand) string {
	one := func(list ...string) string { return list[r.IntN(len(list))] }
	name := func() string { return one("A", "B", "C", "D", "else") }
	body := func() string {
		text := ""
		for range r.IntN(4) {
			text += one("1", " ", "x", "`"+name(), "`A ", "/**/", "-", "\t", "//")
		}
		return text
	}
	text := ""
	for range r.IntN(12) {
		text += one("", "", "", " ", "\t", "/* c */", "/* \n */")
		switch r.IntN(16) {
		case 0, 1, 2:
			text += "`define " + name() + " " + body()
		case 3:
			text += "`undef " + name()
		case 4, 5:
			text += one("`ifdef ", "`ifndef ") + name() + "\n" + body() + "\n" + one("", "`else\n"+body()+"\n") + "`endif"
		case 6:
			text += one("`ifdef ", "`ifndef ") + name()
		case 7:
			text += one("`endif", "`else")
		case 8:
			text += "`include \"" + one("b", "b", "c", "c", "a", "e") + "\""
		case 9:
			text += one("`", "/*", "`define", "`9", "`endif x", "`include b", "\xff`A", "`B\v")
		default:
			text += body() + body()
		}
		text += one("", " ", "\r", "// c") + one("\n", "\n", "\n", "\n", "\n", "\r\n", "")
	}
	return text
}

func TestP7_1RandomTexts(t *testing.T) {
	r := rand.New(rand.NewPCG(7, 1))
	counts := map[api.Errno]int{}
	for range 60000 {
		heads := "`define A 1\n`define B <`A>\n`define C\n`define D `C`B\n"
		counts[mustAgree(t, heads+someText(r), someText(r), someText(r))]++
		if t.Failed() {
			return
		}
	}
	for _, err := range []api.Errno{api.OK, api.ErrForm, api.ErrEnd, api.ErrDeep, api.ErrName} {
		if counts[err] < 100 {
			t.Errorf("P7.1: the texts are not diverse: error %d occurs %d times", err, counts[err])
		}
	}
}

// TestP7_2Bytes finds the bytes of pieces in the files.
func TestP7_2Bytes(t *testing.T) {
	r := rand.New(rand.NewPCG(7, 2))
	for range 20000 {
		texts := []string{"`define A 1\n`define B\n`define C `A\n" + someText(r), someText(r), "x\n/* */y"}
		x := table(t, texts...)
		pieces, _, _ := pre.Expand(x, "a")
		for _, p := range pieces {
			offset, err := x.Offset(p.Pos)
			if err != api.OK || p.Fixed && texts[p.Pos.File-1][offset] != '`' {
				t.Fatalf("P7.2:%s: a piece at %s", short(texts...), showPos(p.Pos))
			}
			if p.Fixed {
				continue
			}
			original := texts[p.Pos.File-1][offset:]
			for i := range len(p.Text) {
				if c := p.Text[i]; i >= len(original) || c != original[i] && (c != ' ' || original[i] == '\n') {
					t.Fatalf("P7.2:%s: byte %d of %q at %s", short(texts...), i, p.Text, showPos(p.Pos))
				}
			}
		}
	}
}

// TestP7_2Spaces has a file with a comment at each place: a space stands for
// each of its bytes, and for no others.
func TestP7_2Spaces(t *testing.T) {
	const plain, comment = "a\tb\n\"c\" \r\n'd", "/*\t\"x\xff*/"
	for i := range len(plain) + 1 {
		mustHaveText(t, plain[:i]+strings.Repeat(" ", len(comment))+plain[i:], plain[:i]+comment+plain[i:])
	}
}
