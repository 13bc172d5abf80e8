package parse_test

import (
	"math/rand/v2"
	"strconv"
	"strings"

	"sluicegate/api"
	"sluicegate/ast"
	"sluicegate/lex"
)

// maker makes sources at random: tokens, and the tree that they are. It notes
// where they are nested too deeply.
type maker struct {
	r           *rand.Rand
	isPlain     bool // the tokens are those that Text writes
	leafChance  int  // one of so many elements has no others in it
	size        int  // how many more elements there may be that have
	tokens      []lex.Token
	depth       int
	tooDeep     int // the first token of the first element beyond the limit, or -1
	hasGenerate bool
}

func newMaker(r *rand.Rand, isPlain bool, size, leafChance int) *maker {
	return &maker{r: r, isPlain: isPlain, size: size, leafChance: leafChance, tooDeep: -1}
}

// put adds tokens and returns the position of the first one.
func (m *maker) put(words ...string) api.Pos {
	pos := m.pos()
	for _, word := range words {
		kind := lex.Sign
		switch c := word[0] | 0x20; {
		case 'a' <= c && c <= 'z', word[0] == '_', word[0] == '$':
			kind = lex.Name
		case '0' <= word[0] && word[0] <= '9', word[0] == '\'':
			kind = lex.Number
		}
		m.tokens = append(m.tokens, lex.Token{Kind: kind, Text: word, Pos: m.pos()})
	}
	return pos
}

// pos returns the position of the token that will be added next.
func (m *maker) pos() api.Pos { return posOf(len(m.tokens)) }

// enter begins an element whose depth is limited, and returns what ends it.
func (m *maker) enter() func() {
	m.depth++
	if m.depth > api.MaxDeep && m.tooDeep < 0 {
		m.tooDeep = len(m.tokens)
	}
	return func() { m.depth-- }
}

// chance is true one of so many times.
func (m *maker) chance(of int) bool { return m.r.IntN(of) == 0 }

func (m *maker) pick(words string) string {
	list := strings.Fields(words)
	return list[m.r.IntN(len(list))]
}

// isLeaf decides whether an element has no others in it.
func (m *maker) isLeaf() bool {
	m.size--
	return m.size < 0 || m.depth > api.MaxDeep+2 || m.chance(m.leafChance)
}

// name adds a name.
func (m *maker) name() string {
	text := m.pick("a b i W q_1 z9 _ negedge initial Begin clk edge $$")
	if text == "$$" {
		text = "n" + strconv.Itoa(m.r.IntN(1000))
	}
	m.put(text)
	return text
}

// list adds up to so many things with commas between them.
func (m *maker) list(least, most int, add func()) {
	for i := range least + m.r.IntN(most-least+1) {
		if i > 0 {
			m.put(",")
		}
		add()
	}
}

// choose adds one of several things.
func choose[T any](m *maker, choices ...func() T) T { return choices[m.r.IntN(len(choices))]() }

// The levels of expressions: from 1 on operators of two operands in the order
// of increasing precedence.
const (
	condLevel    = 0
	prefixLevel  = 11
	primaryLevel = 12
)

func signsOf(level int) string {
	return [...]string{"", "||", "&&", "|", "^ ~^ ^~", "&", "== !=", "< <= > >=", "<< >> <<< >>>", "+ -", "* / %", "- ~ ! & | ^ ~& ~| ~^ ^~ +"}[level]
}

// inTree returns an operator as the tree has it.
func inTree(sign string) string {
	if sign == "^~" {
		return "~^"
	}
	return sign
}

// sign adds an operator of a level.
func (m *maker) sign(level int) string {
	sign := m.pick(signsOf(level))
	if m.isPlain && (sign == "^~" || sign == "+" && level == prefixLevel) {
		sign = "~^"
	}
	if m.isPlain && level == prefixLevel && sign == "~^" {
		sign = m.pick("- ~ ! & | ^ ~& ~| ~^")
	}
	m.put(sign)
	return sign
}

func (m *maker) expr() ast.Expr {
	defer m.enter()()
	return m.between(condLevel, primaryLevel)
}

func (m *maker) exprs(least, most int) []ast.Expr {
	var list []ast.Expr
	m.list(least, most, func() { list = append(list, m.expr()) })
	return list
}

// between adds an expression of one of these levels.
func (m *maker) between(lowest, highest int) ast.Expr {
	level := lowest + m.r.IntN(highest-lowest+1)
	if level < primaryLevel && highest == primaryLevel && m.isLeaf() {
		level = primaryLevel
	}
	pos := m.pos()
	switch level {
	case condLevel:
		c := m.operand(condLevel + 1)
		m.put("?")
		a := m.alternative()
		m.put(":")
		return ast.Expr{Kind: ast.Cond, Pos: pos, Args: []ast.Expr{c, a, m.alternative()}}
	case prefixLevel:
		return m.prefixed()
	case primaryLevel:
		return m.primary()
	}
	a := m.operand(level)
	sign := m.sign(level)
	return ast.Expr{Kind: ast.Bin, Pos: pos, Text: inTree(sign), Args: []ast.Expr{a, m.operand(level + 1)}}
}

func (m *maker) alternative() ast.Expr {
	defer m.enter()()
	return m.operand(condLevel)
}

func (m *maker) prefixed() ast.Expr {
	defer m.enter()()
	pos := m.pos()
	sign := m.sign(prefixLevel)
	e := m.operand(prefixLevel)
	if sign == "+" {
		return e
	}
	return ast.Expr{Kind: ast.Un, Pos: pos, Text: inTree(sign), Args: []ast.Expr{e}}
}

// operand adds an expression of a level or a higher one. In a plain text, it is
// enclosed in parentheses if it is an operation.
func (m *maker) operand(lowest int) ast.Expr {
	if !m.isPlain {
		return m.between(lowest, primaryLevel)
	}
	if m.isLeaf() {
		return m.primary()
	}
	m.put("(")
	defer m.put(")")
	defer m.enter()()
	return m.between(condLevel, prefixLevel)
}

func (m *maker) primary() ast.Expr {
	pos := m.pos()
	if m.isLeaf() {
		if m.chance(2) {
			text := m.pick("0 1 17 4'b1_0 'hF 8'sd3 2_ 128'hfF")
			m.put(text)
			return ast.Expr{Kind: ast.Num, Pos: pos, Text: text}
		}
		return ast.Expr{Kind: ast.Name, Pos: pos, Text: m.name()}
	}
	switch choice := m.r.IntN(6); {
	case choice == 0 && !m.isPlain:
		m.put("(")
		e := m.expr()
		m.put(")")
		return e
	case choice == 1:
		return m.braced(pos)
	case choice == 2:
		text := "$signed"
		switch m.r.IntN(4) {
		case 0:
			m.put(text)
		case 1:
			text = "$unsigned"
			m.put(text)
		default:
			text = m.name()
		}
		m.put("(")
		e := ast.Expr{Kind: ast.Call, Pos: pos, Text: text, Args: m.exprs(1, 3)}
		m.put(")")
		return e
	}
	return m.left()
}

func (m *maker) braced(pos api.Pos) ast.Expr {
	m.put("{")
	e := ast.Expr{Kind: ast.Cat, Pos: pos}
	if m.chance(2) {
		e.Kind, e.Args = ast.Rep, []ast.Expr{m.expr()}
		m.put("{")
		e.Args = append(e.Args, m.exprs(1, 3)...)
		m.put("}")
	} else {
		e.Args = m.exprs(1, 3)
	}
	m.put("}")
	return e
}

// left adds a name with an index, bounds or nothing.
func (m *maker) left() ast.Expr {
	e := ast.Expr{Kind: ast.Name, Pos: m.pos(), Text: m.name()}
	switch m.r.IntN(3) {
	case 0:
		m.put("[")
		e.Kind, e.Args = ast.Index, []ast.Expr{m.expr()}
		m.put("]")
	case 1:
		e.Kind, e.Args = ast.Range, m.bounds()
	}
	return e
}

func (m *maker) bounds() []ast.Expr {
	m.put("[")
	high := m.expr()
	m.put(":")
	low := m.expr()
	m.put("]")
	return []ast.Expr{high, low}
}
