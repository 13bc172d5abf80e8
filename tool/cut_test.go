package tool_test

import (
	"fmt"
	"slices"
	"strings"
	"testing"

	"sluicegate/api"
	"sluicegate/lex"
	"sluicegate/pre"
	"sluicegate/sample"
	"sluicegate/src"
	"sluicegate/tool"
)

// cutter writes words as files. Some of them are included, and macros stand for some.
type cutter struct {
	sample.Choice
	files  []src.File
	count  int
	places []place // of the words
}

// place is where an error in a word is reported: in a macro, where it is used.
type place struct {
	file      string
	line, col int
	isUse     bool
}

// page is a file that is being written.
type page struct {
	sample.Choice
	name, text string
}

// cut returns files, the first one of which has the words.
func cut(pick sample.Choice, words []string) ([]src.File, string, []place) {
	c := &cutter{Choice: pick}
	top := c.file(words, 1)
	for i := range c.files {
		j := i + pick(len(c.files)-i)
		c.files[i], c.files[j] = c.files[j], c.files[i]
	}
	return c.files, top, c.places
}

// file writes one, and returns its name.
func (c *cutter) file(words []string, depth int) string {
	p := &page{Choice: c.Choice, name: fmt.Sprintf("%d%s", c.count, "_-.v"[c.Choice(4):])}
	c.count++
	for len(words) > 0 {
		part := words[:min(1+c.Choice(20), len(words))]
		words = words[len(part):]
		switch n := c.Choice(8); {
		case n < 2:
			c.macro(p, part[:min(len(part), 6)])
			c.plain(p, part[min(len(part), 6):])
		case n == 2 && depth < 8 && c.count < api.MaxFiles:
			p.text += "\n`include" + c.one("", " ", "\t") + "\"" // its name is known later
			name := c.file(part, depth+1)
			p.text += name + "\"" + c.one("\n", " \n", "// `x\n")
		case n == 3:
			c.condition(p, part)
		default:
			c.plain(p, part)
		}
	}
	c.files = append(c.files, src.File{Name: p.name, Text: p.text})
	return p.name
}

func (c *cutter) one(list ...string) string { return list[c.Choice(len(list))] }

func (p *page) gap() {
	p.text += []string{" ", " ", " ", "\n", "\t", "\r\n", " // `x \" /*\n", "/* `x\n */", "/**/"}[p.Choice(9)]
}

// here is the place of the next byte.
func (p *page) here(isUse bool) place {
	return place{p.name, 1 + strings.Count(p.text, "\n"), len(p.text) - strings.LastIndex(p.text, "\n"), isUse}
}

func (c *cutter) plain(p *page, words []string) {
	for _, word := range words {
		p.gap()
		c.places = append(c.places, p.here(false))
		p.text += word
	}
}

// macro writes definitions and a use.
func (c *cutter) macro(p *page, words []string) {
	inner := words[:c.Choice(len(words)+1)]
	a, b := "`define A_1", "`define b"
	if len(inner) > 0 {
		a += c.one(" ", "\t/* */") + strings.Join(inner, " ")
	}
	b += " " + c.one("", "`A_1 ", "`A_1\t") + strings.Join(words[len(inner):], " ")
	if !strings.Contains(b, "`A") {
		b = "`define b " + strings.Join(words, " ")
	}
	if c.Choice(2) == 0 { // A_1 may be defined after what uses it
		a, b = b, a
	}
	p.text += "\n" + a + "\n" + c.one("", " ", "\n") + b + c.one("", " ", "// `x") + "\n"
	p.gap()
	for range words {
		c.places = append(c.places, p.here(true))
	}
	p.text += "`b" + c.one("", "\n`undef b", "\n`undef A_1\n`undef b ") + "\n"
}

// condition writes words that are active, and others that are not.
func (c *cutter) condition(p *page, words []string) {
	junk := "\n" + c.one("", ") `none", "`include \"none\"", "`ifdef A_1\n`else\n`endif", "`define b )", "`undef b")
	p.text += "\n`define d\n"
	switch c.Choice(4) {
	case 0:
		p.text += "`ifdef none" + junk + "\n`else\n"
	case 1:
		p.text += "`ifndef d" + junk + "\n`else // \n"
	case 2:
		p.text += "`ifdef d\n"
	case 3:
		p.text += "`ifndef none\n"
	}
	active := strings.HasSuffix(p.text, "d\n") || strings.HasSuffix(p.text, "none\n")
	c.plain(p, words)
	if active && c.Choice(2) == 0 {
		p.text += "\n`else" + junk
	}
	p.text += "\n`endif\n"
}

// wordsOf returns the tokens of a text.
func wordsOf(t *testing.T, text string) []string {
	t.Helper()
	tokens, _, err := lex.Lex(pre.Piece{Text: text})
	if err != api.OK {
		t.Fatalf("P8.1: error %d: %s", err, text)
	}
	var words []string
	for _, x := range tokens {
		words = append(words, x.Text)
	}
	return words
}

// moved returns what an error line for words with single spaces between them is, if
// they have these places.
func moved(line string, words []string, places []place) string {
	var at, number int
	if n, _ := fmt.Sscanf(line, "t.v:1:%d: error %d", &at, &number); n != 2 {
		return line
	}
	for i, word := range words {
		if at <= len(word) {
			x := places[i]
			if !x.isUse {
				x.col += at - 1
			}
			return fmt.Sprintf("%s:%d:%d: error %d", x.file, x.line, x.col, number)
		}
		at -= len(word) + 1
	}
	return line
}

// TestP27_4Cut: files and macros lead to the report of their text.
func TestP27_4Cut(t *testing.T) {
	pick := chooser(27, 4)
	verdicts, most := map[string]int{}, 0
	for range 400 {
		words := wordsOf(t, anyMachine(pick).text)
		files, top, _ := cut(pick, words)
		want := mustRun(t, one(strings.Join(words, " ")), "t.v", "top", 3, 100000)
		got := tool.Run(files, top, "top", 3, 100000)
		if show(got) != show(want) {
			t.Fatalf("P27.4: %s, not %s: %q", show(got), show(want), files)
		}
		if strings.HasPrefix(got.Lines[2], "fail") {
			mustFail(t, pick, files, top, "top", got)
		}
		verdicts[got.Lines[2][:4]]++
		most = max(most, len(files))
	}
	if verdicts["fail"] < 50 || verdicts["safe"] < 50 || most < 10 {
		t.Errorf("P27.4: only %v, and %d files", verdicts, most)
	}
}

// changed returns words of which one or two are other ones.
func changed(pick sample.Choice, words []string) []string {
	list := slices.Clone(words)
	junk := strings.Fields("( ) ; = <= begin end input reg posedge [ ] : é a0é 9'hg $ $signed x' 'd 0'd1 assert if for else " + strings.Repeat("n", 41))
	names := strings.Fields("clk top a0 a1 q0 q1 t0 w0 w1 m f0 i0 x y z none")
	numbers := strings.Fields("0 1 3 4 64 65 127 128 2147483647 2147483648 4'd3 1'd2 300'd1 a0 w0")
	for range 1 + pick(2) {
		at := pick(len(list))
		for range pick(20) {
			if c := list[at][0]; c < '0' || c > '9' && !slices.Contains(names, list[at]) {
				at = pick(len(list))
			}
		}
		from := junk
		switch c := list[at][0]; {
		case pick(8) == 0:
		case c >= '0' && c <= '9':
			from = numbers
		case slices.Contains(names, list[at]):
			from = names
		}
		switch word := from[pick(len(from))]; pick(20) {
		case 0:
			list = slices.Delete(list, at, at+1)
		case 1:
			list = slices.Insert(list, at, word)
		case 2:
			list = list[:max(at, 1)]
		default:
			list[at] = word
		}
	}
	return list
}

// TestP27_4Errors: in files and macros, an error is where the text is.
func TestP27_4Errors(t *testing.T) {
	pick := chooser(27, 5)
	uses, kinds := 0, map[string]int{}
	for range 1500 {
		words := changed(pick, wordsOf(t, anyMachine(pick).text))
		files, top, places := cut(pick, words)
		d, fault := tool.Design(one(strings.Join(words, " ")), "t.v", "top")
		want := moved(fault, words, places)
		got, line := tool.Design(files, top, "top")
		if line != want || len(got.Sigs) != len(d.Sigs) || len(got.Procs) != len(d.Procs) || fault != "" && !isPlace(files, line) {
			t.Fatalf("P27.4: %s, not %s (which is %s): %q", line, want, fault, files)
		}
		kinds[fault[strings.LastIndex(fault, " ")+1:]]++
		uses += truth(slices.ContainsFunc(places, func(x place) bool {
			return x.isUse && strings.HasPrefix(line, fmt.Sprintf("%s:%d:%d:", x.file, x.line, x.col))
		}))
	}
	if uses < 100 || len(kinds) < 14 {
		t.Errorf("P27.4: %d errors in macros, of the kinds %v", uses, kinds)
	}
}
