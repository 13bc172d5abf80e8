package konst_test

import (
	"math/big"
	"math/rand/v2"
	"testing"

	"sluicegate/api"
	"sluicegate/ast"
	"sluicegate/konst"
	"sluicegate/sample"
)

// outcome is what an expression is: a number, or an error at a position.
type outcome struct {
	n   *big.Int
	pos api.Pos
	err api.Errno
}

func wrong(e ast.Expr, err api.Errno) outcome { return outcome{new(big.Int), e.Pos, err} }

// model evaluates what maker makes, with integers of any size.
func model(e ast.Expr, v konst.Env) outcome {
	x := modelOf(e, v)
	if x.err == api.OK && !inRange(x.n) {
		return wrong(e, api.ErrRange)
	}
	return x
}

func inRange(n *big.Int) bool {
	return n.Cmp(big.NewInt(-1<<31)) >= 0 && n.Cmp(big.NewInt(1<<31-1)) <= 0
}

func modelOf(e ast.Expr, v konst.Env) outcome {
	switch e.Kind {
	case ast.Num:
		n, _ := new(big.Int).SetString(e.Text, 10)
		return outcome{n: n}
	case ast.Name:
		n, found := v.Find(e.Text)
		if !found {
			return wrong(e, api.ErrName)
		}
		return outcome{n: big.NewInt(int64(n))}
	case ast.Un, ast.Bin, ast.Cond:
		return modelOfOperation(e, v)
	}
	return wrong(e, api.ErrConst)
}

func modelOfOperation(e ast.Expr, v konst.Env) outcome {
	if e.Kind == ast.Un && len(e.Text) > 1 {
		return wrong(e, api.ErrConst)
	}
	first := model(e.Args[0], v)
	isTrue := first.n.Sign() != 0
	if first.err != api.OK {
		return first
	}
	switch {
	case e.Kind == ast.Un:
		return outcome{n: modelOfUnary(e.Text, first.n)}
	case e.Kind == ast.Cond && isTrue:
		return model(e.Args[1], v)
	case e.Kind == ast.Cond:
		return model(e.Args[2], v)
	case e.Text == "&&" && !isTrue, e.Text == "||" && isTrue:
		return outcome{n: number(isTrue)}
	}
	second := model(e.Args[1], v)
	if second.err != api.OK {
		return second
	}
	n := modelOfBinary(e.Text, first.n, second.n)
	if n == nil {
		return wrong(e, api.ErrRange)
	}
	return outcome{n: n}
}

func number(is bool) *big.Int {
	if is {
		return big.NewInt(1)
	}
	return big.NewInt(0)
}

func modelOfUnary(sign string, a *big.Int) *big.Int {
	switch sign {
	case "-":
		return new(big.Int).Neg(a)
	case "~":
		return new(big.Int).Not(a)
	}
	return number(a.Sign() == 0)
}

// modelOfBinary returns nil if there is no result.
func modelOfBinary(sign string, a, b *big.Int) *big.Int {
	n := new(big.Int)
	isShift := sign[0] == sign[len(sign)-1] && len(sign) > 1 && (sign[0] == '<' || sign[0] == '>')
	if isShift && (b.Sign() < 0 || b.Cmp(big.NewInt(31)) > 0) {
		return nil
	}
	if (sign == "/" || sign == "%") && b.Sign() == 0 {
		return nil
	}
	switch sign {
	case "+":
		return n.Add(a, b)
	case "-":
		return n.Sub(a, b)
	case "*":
		return n.Mul(a, b)
	case "/":
		return n.Quo(a, b)
	case "%":
		return n.Rem(a, b)
	case "&":
		return n.And(a, b)
	case "|":
		return n.Or(a, b)
	case "^":
		return n.Xor(a, b)
	case "~^":
		return n.Not(n.Xor(a, b))
	case "<<", "<<<":
		return n.Mul(a, new(big.Int).Exp(big.NewInt(2), b, nil))
	case ">>", ">>>":
		return n.Div(a, new(big.Int).Exp(big.NewInt(2), b, nil)) // Euclidean: rounded down
	case "&&", "||":
		return number(b.Sign() != 0)
	}
	order := a.Cmp(b)
	return number(map[string]bool{"<": order < 0, "<=": order <= 0, ">": order > 0, ">=": order >= 0, "==": order == 0, "!=": order != 0}[sign])
}

// maker makes expressions, most of which have no error.
type maker struct{ *rand.Rand }

func (m maker) oneOf(words ...string) string { return words[m.IntN(len(words))] }

func (m maker) expr(depth int) ast.Expr {
	if depth == 0 || m.IntN(8) == 0 {
		return m.leaf()
	}
	arg := func() ast.Expr { return m.expr(depth - 1) }
	switch m.IntN(40) {
	case 0:
		return ast.Expr{Kind: ast.Cat, Args: []ast.Expr{arg()}}
	case 1:
		return ast.Expr{Kind: ast.Un, Text: "~&", Args: []ast.Expr{arg()}}
	case 2, 3, 4, 5, 6, 7:
		return ast.Expr{Kind: ast.Cond, Args: []ast.Expr{arg(), arg(), arg()}}
	case 8, 9, 10, 11, 12, 13:
		return ast.Expr{Kind: ast.Un, Text: m.oneOf("-", "~", "!"), Args: []ast.Expr{arg()}}
	}
	sign := m.oneOf("+", "-", "*", "/", "%", "&", "|", "^", "~^", "<<", ">>", "<<<", ">>>", "<", "<=", ">", ">=", "==", "!=", "&&", "||")
	return bin(arg(), sign, arg())
}

func (m maker) leaf() ast.Expr {
	if m.IntN(3) == 0 {
		return ast.Expr{Kind: ast.Name, Text: m.oneOf("W", "W", "W", "N", "N", "N", "N", "ZERO", "MOST", "LEAST", "LEAST", "OVER", "x")}
	}
	return value(m.oneOf("0", "1", "1", "2", "3", "7", "16", "30", "31", "32", "1000", "65536", "1073741824", "2147483647"))
}

func TestP11_1AgreesWithIntegersOfAnySize(t *testing.T) {
	m := maker{rand.New(rand.NewPCG(11, 1))}
	good := 0
	for range 60000 {
		e := sample.Placed(m.expr(4))
		n, pos, err := konst.Eval(e, given())
		want := model(e, given())
		if int64(n) != want.n.Int64() || pos != want.pos || err != want.err {
			t.Errorf("P11.1: %s: %d, error %d at %v; want %v, error %d at %v", sample.Text(e), n, err, pos, want.n, want.err, want.pos)
		}
		if err == api.OK {
			good++
		}
	}
	if good < 15000 {
		t.Errorf("P11.1: only %d expressions have a value", good)
	}
}
