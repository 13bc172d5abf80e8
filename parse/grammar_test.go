package parse_test

import (
	"math/rand/v2"
	"slices"
	"strings"
	"testing"

	"sluicegate/api"
	"sluicegate/lex"
	"sluicegate/parse"
)

// chapterGrammar is the grammar of the chapter: { } means any number, [ ]
// optional, ( ) a group, and | alternatives. Operators are all of one
// precedence here, which has no effect on what is accepted. The NAMEs of a loop
// are those that LOOP stands for. A wrong declaration in a function has a rule of
// its own.
const chapterGrammar = `
source: { module }
module: "module" NAME [ "#" "(" param { "," param } ")" ] "(" [ port { "," port } ] ")" ";" { item } "endmodule"
param: "parameter" NAME "=" expr
port: ( "input" | "output" ) [ "signed" ] [ range ] NAME | "output" "reg" [ "signed" ] [ range ] NAME [ "=" expr ]
range: "[" expr ":" expr "]"
item: "wire" [ "signed" ] [ range ] NAME ";" | regular | "reg" [ "signed" ] [ range ] NAME ";" | "integer" NAME ";" | "localparam" NAME "=" expr ";" | "genvar" NAME ";"
item: "assign" left "=" expr ";" | "always" "@" ( "*" | "(" "*" ")" ) stmt | "always" "@" "(" "posedge" NAME ")" stmt
item: "function" [ "signed" ] [ range ] NAME ";" { ( "input" | "reg" ) [ "signed" ] [ range ] NAME ";" | "integer" NAME ";" | wronglocal } stmt "endfunction"
item: NAME [ "#" conns ] NAME conns ";" | loop genblock | "if" "(" expr ")" genblock [ "else" genblock ] | "generate" { item } "endgenerate"
regular: "reg" [ "signed" ] [ range ] NAME "=" expr ";" | "reg" [ "signed" ] range NAME range ";"
wronglocal: regular
conns: "(" [ conn { "," conn } ] ")"
conn: "." NAME "(" [ expr ] ")"
loop: "for" "(" LOOP "=" expr ";" expr ";" LOOP "=" expr ")"
genblock: "begin" ":" NAME { item } "end"
stmt: ";" | "begin" { stmt } "end" | left ( "=" | "<=" ) expr ";" | "if" "(" expr ")" stmt [ "else" stmt ] | "case" "(" expr ")" arm { arm } "endcase"
stmt: loop stmt | [ NAME ":" ] "assert" "(" expr ")" ";"
arm: ( expr { "," expr } | "default" ) ":" stmt
left: NAME [ "[" expr [ ":" expr ] "]" ]
expr: operand { sign operand } | operand { sign operand } "?" expr ":" expr
sign: "||" | "&&" | "|" | "^" | "~^" | "^~" | "&" | "==" | "!=" | "<" | "<=" | ">" | ">=" | "<<" | ">>" | "<<<" | ">>>" | "+" | "-" | "*" | "/" | "%"
operand: { "-" | "~" | "!" | "&" | "|" | "^" | "~&" | "~|" | "~^" | "^~" | "+" } primary
primary: NUMBER | left | ( NAME | "$signed" | "$unsigned" ) "(" expr { "," expr } ")" | "(" expr ")" | "{" expr { "," expr } "}"
primary: "{" expr "{" expr { "," expr } "}" "}"
`

// keywords are the quoted words of the grammar.
func keywords() []string {
	return strings.Fields(`module endmodule parameter input output signed reg wire integer localparam genvar assign always posedge
		function endfunction if else generate endgenerate for begin end case endcase default assert`)
}

// rule is one of the alternatives of a symbol. Words that begin with a double
// quote, NAME and NUMBER are tokens, and all others are symbols.
type rule struct {
	symbol string
	body   []string
}

type grammar struct {
	rules []rule
	of    map[string][]int // the numbers of the rules of a symbol
	empty map[string]bool  // symbols that may stand for nothing
	extra int
}

func (g *grammar) add(symbol string, bodies ...[]string) {
	for _, body := range bodies {
		g.of[symbol] = append(g.of[symbol], len(g.rules))
		g.rules = append(g.rules, rule{symbol, body})
	}
}

// readGrammar reads the grammar of the chapter, where the NAMEs of loops are
// among those given.
func readGrammar(loopNames ...string) *grammar {
	g := &grammar{of: map[string][]int{}, empty: map[string]bool{}}
	for _, line := range strings.Split(strings.TrimSpace(chapterGrammar), "\n") {
		head, body, _ := strings.Cut(line, ": ")
		names := []string{""}
		if strings.Contains(body, "LOOP") {
			names = loopNames
		}
		for _, name := range names {
			words := strings.Fields(strings.ReplaceAll(body, "LOOP", `"`+name+`"`))
			list, _ := g.alternatives(words)
			g.add(head, list...)
		}
	}
	g.findEmpty()
	return g
}

// alternatives reads alternatives up to a closing bracket, and returns the words
// after it.
func (g *grammar) alternatives(words []string) ([][]string, []string) {
	list := [][]string{nil}
	for len(words) > 0 {
		word := words[0]
		words = words[1:]
		last := len(list) - 1
		switch word {
		case "|":
			list = append(list, nil)
		case "}", "]", ")":
			return list, words
		case "{", "[", "(":
			var inner [][]string
			inner, words = g.alternatives(words)
			list[last] = append(list[last], g.bracketed(word, inner))
		default:
			list[last] = append(list[last], word)
		}
	}
	return list, nil
}

// bracketed returns a new symbol for what is in brackets.
func (g *grammar) bracketed(bracket string, inner [][]string) string {
	g.extra++
	symbol := bracket + string(rune('A'+g.extra))
	switch bracket {
	case "{":
		for i := range inner {
			inner[i] = append([]string{symbol}, inner[i]...)
		}
		inner = append(inner, nil)
	case "[":
		inner = append(inner, nil)
	}
	g.add(symbol, inner...)
	return symbol
}

func (g *grammar) findEmpty() {
	isFilled := func(symbol string) bool { return !g.empty[symbol] }
	for again := true; again; {
		again = false
		for _, r := range g.rules {
			if isFilled(r.symbol) && !slices.ContainsFunc(r.body, isFilled) {
				g.empty[r.symbol], again = true, true
			}
		}
	}
}

// wordsFor returns the words of the grammar that a token is.
func wordsFor(t lex.Token) []string {
	quoted := `"` + t.Text + `"`
	switch {
	case t.Kind == lex.Number:
		return []string{"NUMBER"}
	case t.Kind == lex.Name && t.Text[0] != '$' && !slices.Contains(keywords(), t.Text):
		return []string{"NAME", quoted}
	}
	return []string{quoted}
}

// state is a rule of which the words before the dot have been read, from a token
// on.
type state struct{ rule, dot, from int }

// chart is what may have been read up to each token.
type chart struct {
	*grammar
	sets [][]state
	seen []map[state]bool
}

func (c *chart) put(at int, s state) {
	if !c.seen[at][s] {
		c.seen[at][s] = true
		c.sets[at] = append(c.sets[at], s)
	}
}

// next returns the symbol that a state continues with, or nothing.
func (c *chart) next(s state) string {
	body := c.rules[s.rule].body
	if s.dot == len(body) {
		return ""
	}
	return body[s.dot]
}

func advanced(s state) state {
	s.dot++
	return s
}

// expand adds what follows from the states at a token without reading it.
func (c *chart) expand(at int) {
	for i := 0; i < len(c.sets[at]); i++ {
		s := c.sets[at][i]
		symbol := c.next(s)
		if symbol == "" {
			for _, outer := range c.sets[s.from] {
				if c.next(outer) == c.rules[s.rule].symbol {
					c.put(at, advanced(outer))
				}
			}
			continue
		}
		for _, number := range c.of[symbol] {
			c.put(at, state{rule: number, from: at})
		}
		if c.empty[symbol] {
			c.put(at, advanced(s))
		}
	}
}

// ended returns the first tokens of the parts of a symbol that end at a token.
func (c *chart) ended(at int, symbol string) []int {
	var list []int
	for _, s := range c.sets[at] {
		if c.rules[s.rule].symbol == symbol && c.next(s) == "" && s.from < at {
			list = append(list, s.from)
		}
	}
	return list
}

// expected returns the error of tokens and the index of its token, according to
// the grammar. It does not know the limits.
func (g *grammar) expected(tokens []lex.Token) (int, api.Errno) {
	c := &chart{grammar: g, sets: make([][]state, len(tokens)+1), seen: make([]map[state]bool, len(tokens)+1)}
	for i := range c.seen {
		c.seen[i] = map[state]bool{}
	}
	c.put(0, state{rule: c.of["source"][0]})
	names := map[string]bool{}
	for at := range len(tokens) + 1 {
		c.expand(at)
		if len(c.sets[at]) == 0 {
			return at - 1, api.ErrForm
		}
		for _, from := range c.ended(at, "wronglocal") {
			return from, api.ErrForm
		}
		for _, from := range c.ended(at, "module") {
			if names[tokens[from+1].Text] {
				return from, api.ErrTwice
			}
			names[tokens[from+1].Text] = true
		}
		if at == len(tokens) {
			break
		}
		words := wordsFor(tokens[at])
		for _, s := range c.sets[at] {
			if slices.Contains(words, c.next(s)) {
				c.put(at+1, advanced(s))
			}
		}
	}
	if len(tokens) > 0 && len(c.ended(len(tokens), "source")) == 0 {
		return len(tokens) - 1, api.ErrEnd
	}
	return 0, api.OK
}

// mustAgree fails unless Parse returns the error that the grammar expects.
func mustAgree(t *testing.T, g *grammar, tokens []lex.Token) api.Errno {
	t.Helper()
	index, want := g.expected(tokens)
	if want != api.OK {
		mustReject(t, want, index, tokens)
	} else if list, pos, err := parse.Parse(tokens...); err != api.OK || pos != (api.Pos{}) {
		t.Errorf("P10.2: %s: %d modules, error %d at %v", short(textOf(tokens)), len(list), err, pos)
	}
	return want
}

// fewNames are all names of the sources that are compared with the grammar, since
// each of them may be that of a loop.
func fewNames() []string { return []string{"a", "b", "i", "m0", "m1", "m2"} }

// withFewNames replaces all other names.
func withFewNames(tokens []lex.Token) []lex.Token {
	names := fewNames()
	for i, token := range tokens {
		if wordsFor(token)[0] == "NAME" && !slices.Contains(names, token.Text) {
			tokens[i].Text = names[len(token.Text)%len(names)]
		}
	}
	return tokens
}

// changed returns tokens with one difference.
func changed(r *rand.Rand, tokens []lex.Token) []lex.Token {
	words := append(keywords(), strings.Fields("a b i $signed $unsigned $x 1 4'b0 || && | ^ ~^ ^~ & == != < <= > >= << >>> + - * / % ~ ! ~& ~| ? : = ( ) [ ] { } ; , . # @ ; ; = ( )")...)
	m := newMaker(r, false, 0, 1)
	m.put(words[r.IntN(len(words))])
	at := r.IntN(len(tokens))
	list := slices.Clone(tokens)
	switch r.IntN(6) {
	case 0:
		list = slices.Delete(list, at, at+1)
	case 1:
		list = slices.Insert(list, at, list[at])
	case 2:
		other := r.IntN(len(list))
		list[at], list[other] = list[other], list[at]
	case 3:
		list = list[:at]
	case 4:
		list = slices.Insert(list, at, m.tokens[0])
	default:
		list[at] = m.tokens[0]
	}
	return number(list)
}

func TestP10_2Grammar(t *testing.T) {
	r := rand.New(rand.NewPCG(10, 5))
	g := readGrammar(fewNames()...)
	counts := map[api.Errno]int{}
	for i := range 1000 {
		m := newMaker(r, false, 5+i%25, 2+i%2)
		m.modules(3)
		if len(m.tokens) == 0 || len(m.tokens) > 250 || m.tooDeep >= 0 {
			continue
		}
		tokens := withFewNames(m.tokens)
		counts[mustAgree(t, g, tokens)]++
		for range 4 {
			counts[mustAgree(t, g, changed(r, tokens))]++
		}
		counts[mustAgree(t, g, number(append(slices.Clone(tokens), tokens...)))]++
	}
	for _, err := range []api.Errno{api.OK, api.ErrForm, api.ErrEnd, api.ErrTwice} {
		if counts[err] < 100 {
			t.Errorf("P10.2: the sources are not diverse: %v", counts)
		}
	}
}
