package typed_test

import (
	"math/big"
	"math/rand/v2"
	"strconv"
	"testing"

	"sluicegate/api"
	"sluicegate/ast"
	"sluicegate/sample"
	"sluicegate/typed"
)

// maker makes expressions, some of which have errors.
type maker struct {
	*rand.Rand
	faulty bool
}

func (m maker) oneOf(words ...string) string { return words[m.IntN(len(words))] }

// expr makes an expression whose depth is at most the given one and 2 more.
func (m maker) expr(depth int) ast.Expr {
	if depth == 0 || m.IntN(7) == 0 {
		return m.leaf()
	}
	arg := func() ast.Expr { return m.expr(depth - 1) }
	switch m.IntN(16) {
	case 0, 1:
		return part(ast.Un, m.oneOf("-", "~"), arg())
	case 2:
		return part(ast.Un, m.oneOf("!", "&", "|", "^", "~&", "~|", "~^"), arg())
	case 3:
		return part(ast.Cond, "", arg(), arg(), arg())
	case 4:
		return part(ast.Cat, "", m.list(depth)...)
	case 5:
		return part(ast.Rep, "", append([]ast.Expr{m.count()}, m.list(depth)...)...)
	case 6:
		return part(ast.Index, m.array(), arg())
	case 7:
		return m.call(depth)
	case 8, 9:
		return part(ast.Bin, m.oneOf("<<", ">>", "<<<", ">>>"), arg(), arg())
	case 10:
		return part(ast.Bin, m.oneOf("<", "<=", ">", ">=", "==", "!="), arg(), arg())
	case 11:
		return part(ast.Bin, m.oneOf("&&", "||"), arg(), arg())
	}
	return part(ast.Bin, m.oneOf("+", "-", "*", "/", "%", "&", "|", "^", "~^"), arg(), arg())
}

func part(kind int, text string, args ...ast.Expr) ast.Expr {
	return ast.Expr{Kind: kind, Text: text, Args: args}
}

func num10(n int) ast.Expr { return part(ast.Num, strconv.Itoa(n)) }

func (m maker) list(depth int) []ast.Expr {
	var list []ast.Expr
	for range 1 + m.IntN(3) {
		list = append(list, m.expr(depth-1))
	}
	return list
}

func (m maker) count() ast.Expr {
	if m.faulty && m.IntN(4) == 0 {
		return m.expr(1)
	}
	return num10(1 + m.IntN(3))
}

func (m maker) array() string {
	if m.faulty && m.IntN(4) == 0 {
		return m.oneOf("W", "no", "twice")
	}
	return m.oneOf("a", "b", "c", "d", "z", "y", "u65", "s128", "m", "n", "one", "m", "n")
}

func (m maker) call(depth int) ast.Expr {
	name := m.oneOf("$signed", "$unsigned", "twice", "same", "mix", "last", "fixed", "none")
	count := 1
	if f, is := functions()[name]; is {
		count = len(f.Params)
	}
	if m.faulty && m.IntN(6) == 0 {
		name = m.oneOf(name, "no", "a", "W")
		count = m.IntN(4)
	}
	e := part(ast.Call, name)
	for range count {
		e.Args = append(e.Args, m.expr(depth-1))
	}
	return e
}

func (m maker) leaf() ast.Expr {
	if m.faulty && m.IntN(12) == 0 {
		return part(ast.Name, m.oneOf("no", "OVER", "m", "mix"))
	}
	switch m.IntN(8) {
	case 0:
		return part(ast.Name, m.oneOf("W", "N", "LEAST", "MOST"))
	case 1:
		return num10([]int{0, 1, 2, 3, 5, 63, 64, 65, 1<<31 - 1}[m.IntN(9)])
	case 2:
		width := []int{1, 2, 3, 7, 31, 33, 64, 65, 128}[m.IntN(9)]
		return part(ast.Num, strconv.Itoa(width)+"'"+m.oneOf("", "s")+"h"+m.oneOf("0", "1", "2", "5", "80", "f0f0f0f0f", "ffffffffffffffffffffffffffffffff"))
	case 3:
		name := m.oneOf("a", "b", "c", "d", "z", "u64", "s65", "s128")
		width := signals[number(name)].Width
		low := m.IntN(width)
		high := low + m.IntN(width-low)
		if m.faulty && m.IntN(4) == 0 {
			name, high, low = m.oneOf(name, "m", "no", "W", "same"), m.IntN(10)-2, m.IntN(10)-2
		}
		return part(ast.Range, name, num10(high), num10(low))
	case 4:
		return part(ast.Index, m.array(), num10(m.IntN(4)))
	}
	return part(ast.Name, m.oneOf("a", "b", "c", "d", "c", "d", "z", "y", "u64", "s64", "u65", "s65", "u128", "s128"))
}

// bits makes a number of width bits, often one with an unusual pattern.
func (m maker) bits(width int) *big.Int {
	n := new(big.Int).SetUint64(m.Uint64())
	n.Lsh(n, 64).Add(n, new(big.Int).SetUint64(m.Uint64()))
	switch m.IntN(6) {
	case 0:
		n = big.NewInt(int64(m.IntN(4)))
	case 1:
		n = big.NewInt(-int64(m.IntN(4)))
	case 2:
		n = power(width - 1)
	case 3:
		n = big.NewInt(int64(m.IntN(140)))
	}
	return modulo(n, width)
}

// widths makes context widths around the one of an expression.
func (m maker) widths(own int) []int {
	return []int{0, 1, max(own-1, 1), own, min(own+1, 128), 1 + m.IntN(128), 128}
}

func TestP12_2AgreesWithTheModel(t *testing.T) {
	m := maker{Rand: rand.New(rand.NewPCG(12, 2))}
	s := scope()
	good := 0
	for range 4000 {
		e := sample.Placed(m.expr(1 + m.IntN(4)))
		want := model{s, start(m.bits)}
		x := want.self(e)
		if !mustHaveSelf(t, s, e, x) {
			continue
		}
		good++
		for _, width := range m.widths(x.width) {
			mustAgree(t, want, e, width)
		}
	}
	if good < 2000 {
		t.Errorf("P12.2: only %d expressions have no error", good)
	}
}

// mustHaveSelf compares Self, and the errors of Resolve, with the model. It
// reports whether there is no error.
func mustHaveSelf(t *testing.T, s typed.Scope, e ast.Expr, want self) bool {
	t.Helper()
	width, signed, pos, err := typed.Self(s, e)
	if got := (self{width, signed, pos, err}); got != want {
		t.Errorf("P12.1: %s: %v, not %v", sample.Text(e), got, want)
	}
	if want.err == api.OK {
		return true
	}
	x, pos, err := typed.Resolve(s, e, 5)
	if show(x) != show(typed.Expr{}) || pos != want.pos || err != want.err {
		t.Errorf("P12.2: %s: error %d at %v; want error %d at %v", sample.Text(e), err, pos, want.err, want.pos)
	}
	return false
}

// mustAgree compares the value of e in a context of a width with the model.
func mustAgree(t *testing.T, want model, e ast.Expr, width int) {
	t.Helper()
	x, pos, err := typed.Resolve(want.scope, e, width)
	if err != api.OK || pos != (api.Pos{}) {
		t.Fatalf("P12.2: %s: error %d at %v", sample.Text(e), err, pos)
	}
	if fault := faultOf(x); fault != "" {
		t.Errorf("P12.4: %s in %d bits: %s", sample.Text(e), width, fault)
	}
	size := width
	if width == 0 {
		size = want.self(e).width
	}
	v := typed.Eval(x, want.state)
	if n := want.within(e, width); v.Width() != size || unsigned(v).Cmp(n) != 0 {
		t.Errorf("P12.2: %s in %d bits: %s, not %s", sample.Text(e), width, v.Text(), n.Text(2))
	}
}

func TestP12_2ErrorsAgreeWithTheModel(t *testing.T) {
	m := maker{rand.New(rand.NewPCG(12, 1)), true}
	s := scope()
	counts := map[api.Errno]int{}
	for range 40000 {
		e := sample.Placed(m.expr(1 + m.IntN(3)))
		want := model{s, state{}}.self(e)
		mustHaveSelf(t, s, e, want)
		counts[want.err]++
	}
	for _, err := range []api.Errno{api.OK, api.ErrWidth, api.ErrRange, api.ErrName, api.ErrKind, api.ErrConst, api.ErrPort} {
		if counts[err] < 100 {
			t.Errorf("P12.2: only %d expressions have the error %d", counts[err], err)
		}
	}
}
