package typed_test

import (
	"math/big"

	"sluicegate/api"
	"sluicegate/ast"
	"sluicegate/konst"
	"sluicegate/lit"
	"sluicegate/typed"
)

// model says what an expression is: its width, sign and first error, and its
// value as a number. It follows the chapter's tables and makes no trees.
type model struct {
	scope typed.Scope
	state state
}

// self is what Self returns.
type self struct {
	width  int
	signed bool
	pos    api.Pos
	err    api.Errno
}

func failed(e ast.Expr, err api.Errno) self { return self{pos: e.Pos, err: err} }

// first returns the first error of list, or whole if there is none.
func first(list []self, whole self) self {
	for _, x := range list {
		if x.err != api.OK {
			return x
		}
	}
	return whole
}

func (m model) selves(list []ast.Expr) []self {
	var all []self
	for _, e := range list {
		all = append(all, m.self(e))
	}
	return all
}

// constant is the value of a constant expression, or its error.
func (m model) constant(e ast.Expr) (int, self) {
	n, pos, err := konst.Eval(e, m.scope.Env())
	return n, self{pos: pos, err: err}
}

func (m model) self(e ast.Expr) self {
	switch e.Kind {
	case ast.Num:
		l, _ := lit.Parse(e.Text)
		return self{width: l.Val.Width(), signed: l.Signed}
	case ast.Name, ast.Index, ast.Range:
		return m.selfOfName(e)
	case ast.Rep:
		return m.selfOfRep(e)
	case ast.Call:
		return m.selfOfCall(e)
	}
	args := m.selves(e.Args)
	whole := self{width: 1}
	switch e.Text {
	case "-", "~", "+", "*", "/", "%", "&", "|", "^", "~^", "":
		if e.Kind == ast.Cat {
			return first(args, m.selfOfCat(e, args, 1))
		}
		last := args[len(args)-1]
		other := last
		if e.Kind != ast.Un {
			other = args[len(args)-2]
		}
		if e.Kind != ast.Un || e.Text == "-" || e.Text == "~" {
			whole = self{width: max(other.width, last.width), signed: other.signed && last.signed}
		}
	case "<<", ">>", "<<<", ">>>":
		whole = args[0]
	}
	return first(args, whole)
}

func (m model) selfOfCat(e ast.Expr, operands []self, count int) self {
	width := 0
	for _, x := range operands {
		width += x.width * count
	}
	if width > api.MaxWidth {
		return failed(e, api.ErrWidth)
	}
	return self{width: width}
}

func (m model) selfOfRep(e ast.Expr) self {
	count, bad := m.constant(e.Args[0])
	if bad.err != api.OK {
		return bad
	}
	if count < 1 {
		return failed(e.Args[0], api.ErrRange)
	}
	operands := m.selves(e.Args[1:])
	return first(operands, m.selfOfCat(e, operands, count))
}

// selfOfSignal is the error of a name that is not a signal.
func (m model) selfOfSignal(e ast.Expr) (typed.Sig, self) {
	kind, _, x := m.scope.Find(e.Text)
	if kind == 0 {
		return x, failed(e, api.ErrName)
	}
	if kind != 2 {
		return x, failed(e, api.ErrKind)
	}
	return x, self{width: x.Width, signed: x.Signed}
}

func (m model) selfOfName(e ast.Expr) self {
	kind, _, _ := m.scope.Find(e.Text)
	if e.Kind == ast.Name && kind == 1 {
		_, bad := m.constant(e)
		return first([]self{bad}, self{width: 32, signed: true})
	}
	x, whole := m.selfOfSignal(e)
	if x.Words != 0 && e.Kind != ast.Index {
		whole = failed(e, api.ErrKind)
	}
	switch {
	case e.Kind == ast.Name:
		return whole
	case e.Kind == ast.Range:
		return m.selfOfRange(e, whole)
	}
	n, bad := m.constant(e.Args[0])
	constant := bad.err == api.OK
	if x.Words != 0 || !constant {
		if at := m.self(e.Args[0]); at.err != api.OK {
			return at
		}
	}
	count := x.Words
	if count == 0 {
		count = x.Width
	}
	switch {
	case whole.err != api.OK:
		return whole
	case constant && (n < 0 || n >= count):
		return failed(e, api.ErrRange)
	case x.Words != 0:
		return whole
	}
	return self{width: 1}
}

func (m model) selfOfRange(e ast.Expr, whole self) self {
	high, bad := m.constant(e.Args[0])
	if bad.err != api.OK {
		return bad
	}
	low, bad := m.constant(e.Args[1])
	if bad.err != api.OK {
		return bad
	}
	switch {
	case high < low:
		return failed(e, api.ErrRange)
	case whole.err != api.OK:
		return whole
	case low < 0 || high >= whole.width:
		return failed(e, api.ErrRange)
	}
	return self{width: high - low + 1}
}

func (m model) selfOfCall(e ast.Expr) self {
	args := m.selves(e.Args)
	whole := failed(e, api.ErrName)
	f, is := functions()[e.Text]
	kind, _, _ := m.scope.Find(e.Text)
	switch {
	case e.Text == "$signed" || e.Text == "$unsigned":
		whole = failed(e, api.ErrPort)
		if len(args) == 1 {
			whole = self{width: args[0].width, signed: e.Text == "$signed"}
		}
	case kind != 0 && !is:
		whole = failed(e, api.ErrKind)
	case is && len(args) != len(f.Params):
		whole = failed(e, api.ErrPort)
	case is:
		whole = self{width: f.Width, signed: f.Signed}
	}
	return first(args, whole)
}

// within is the number of e in a context of a width, or by itself if that is 0.
func (m model) within(e ast.Expr, width int) *big.Int {
	x := m.self(e)
	if width == 0 {
		width = x.width
	}
	return modulo(m.value(e, max(width, x.width), x.signed), width)
}

func (m model) alone(e ast.Expr) *big.Int { return m.within(e, 0) }

func (m model) holds(e ast.Expr) bool { return m.alone(e).Sign() != 0 }

// value is the number of e with a context width and sign.
func (m model) value(e ast.Expr, width int, signed bool) *big.Int {
	arg := func(i int) *big.Int { return m.value(e.Args[i], width, signed) }
	switch {
	case e.Kind == ast.Un && e.Text == "-":
		return modulo(new(big.Int).Neg(arg(0)), width)
	case e.Kind == ast.Un && e.Text == "~":
		return modulo(new(big.Int).Not(arg(0)), width)
	case e.Kind == ast.Cond && m.holds(e.Args[0]):
		return arg(1)
	case e.Kind == ast.Cond:
		return arg(2)
	}
	if e.Kind == ast.Bin {
		switch e.Text {
		case "<<", "<<<", ">>", ">>>":
			return modulo(shifted(e.Text, arg(0), m.alone(e.Args[1]), width, signed), width)
		case "+", "-", "*", "/", "%", "&", "|", "^", "~^":
			return modulo(combined(e.Text, arg(0), arg(1), width, signed), width)
		}
	}
	n := m.bare(e)
	if signed {
		n = twos(n, m.self(e).width)
	}
	return modulo(n, width)
}

func shifted(sign string, a, by *big.Int, width int, signed bool) *big.Int {
	count := uint(width)
	if by.IsInt64() && by.Int64() < int64(width) {
		count = uint(by.Int64())
	}
	switch {
	case sign[0] == '<':
		return new(big.Int).Lsh(a, count)
	case sign == ">>>" && signed:
		return new(big.Int).Rsh(twos(a, width), count)
	}
	return new(big.Int).Rsh(a, count)
}

func combined(sign string, a, b *big.Int, width int, signed bool) *big.Int {
	n := new(big.Int)
	switch sign {
	case "+":
		return n.Add(a, b)
	case "-":
		return n.Sub(a, b)
	case "*":
		return n.Mul(a, b)
	case "&":
		return n.And(a, b)
	case "|":
		return n.Or(a, b)
	case "^":
		return n.Xor(a, b)
	case "~^":
		return n.Not(n.Xor(a, b))
	}
	if signed {
		a, b = twos(a, width), twos(b, width)
	}
	switch {
	case b.Sign() == 0 && sign == "/":
		return big.NewInt(-1)
	case b.Sign() == 0:
		return a
	case sign == "/":
		return n.Quo(a, b)
	}
	return n.Rem(a, b)
}

// bare is the number of an expression that is evaluated by itself.
func (m model) bare(e ast.Expr) *big.Int {
	switch e.Kind {
	case ast.Num:
		l, _ := lit.Parse(e.Text)
		return unsigned(l.Val)
	case ast.Name, ast.Index, ast.Range:
		return m.named(e)
	case ast.Cat:
		return m.joined(e.Args)
	case ast.Rep:
		count, _ := m.constant(e.Args[0])
		var list []ast.Expr
		for range count {
			list = append(list, e.Args[1:]...)
		}
		return m.joined(list)
	case ast.Call:
		return m.called(e)
	case ast.Un:
		return truth(m.reduced(e))
	}
	switch e.Text {
	case "&&":
		return truth(m.holds(e.Args[0]) && m.holds(e.Args[1]))
	case "||":
		return truth(m.holds(e.Args[0]) || m.holds(e.Args[1]))
	}
	return truth(m.compared(e))
}

func truth(is bool) *big.Int {
	if is {
		return big.NewInt(1)
	}
	return big.NewInt(0)
}

func (m model) reduced(e ast.Expr) bool {
	n, odd := m.alone(e.Args[0]), false
	all := new(big.Int).Sub(power(m.self(e.Args[0]).width), big.NewInt(1))
	for i := range n.BitLen() {
		odd = odd != (n.Bit(i) == 1)
	}
	switch e.Text {
	case "&":
		return n.Cmp(all) == 0
	case "~&":
		return n.Cmp(all) != 0
	case "|":
		return n.Sign() != 0
	case "^":
		return odd
	case "~^":
		return !odd
	}
	return n.Sign() == 0 // ! and ~|
}

func (m model) compared(e ast.Expr) bool {
	x, y := m.self(e.Args[0]), m.self(e.Args[1])
	width, signed := max(x.width, y.width), x.signed && y.signed
	a, b := m.value(e.Args[0], width, signed), m.value(e.Args[1], width, signed)
	if signed {
		a, b = twos(a, width), twos(b, width)
	}
	order := a.Cmp(b)
	switch e.Text {
	case "<":
		return order < 0
	case "<=":
		return order <= 0
	case ">":
		return order > 0
	case ">=":
		return order >= 0
	case "==":
		return order == 0
	}
	return order != 0
}

func (m model) joined(list []ast.Expr) *big.Int {
	n := new(big.Int)
	for _, e := range list {
		n = new(big.Int).Lsh(n, uint(m.self(e).width))
		n.Add(n, m.alone(e))
	}
	return n
}

func (m model) named(e ast.Expr) *big.Int {
	kind, num, x := m.scope.Find(e.Text)
	if kind == 1 {
		return modulo(big.NewInt(int64(num)), 32)
	}
	if x.Words != 0 {
		at := m.alone(e.Args[0])
		if at.Cmp(big.NewInt(int64(x.Words))) >= 0 {
			return new(big.Int)
		}
		return unsigned(m.state.words[num][at.Int64()])
	}
	n := unsigned(m.state.sigs[num])
	switch e.Kind {
	case ast.Name:
		return n
	case ast.Range:
		low, _ := m.constant(e.Args[1])
		return modulo(new(big.Int).Rsh(n, uint(low)), m.self(e).width)
	}
	at, bad := m.constant(e.Args[0])
	which := big.NewInt(int64(at))
	if bad.err != api.OK {
		which = m.alone(e.Args[0])
	}
	if which.Cmp(big.NewInt(int64(x.Width))) >= 0 {
		return new(big.Int)
	}
	return modulo(new(big.Int).Rsh(n, uint(which.Int64())), 1)
}

// called is the number of a call of a function of the tests.
func (m model) called(e ast.Expr) *big.Int {
	f, is := functions()[e.Text]
	if !is {
		return m.alone(e.Args[0]) // $signed and $unsigned
	}
	var args []*big.Int
	for i, arg := range e.Args {
		args = append(args, m.within(arg, f.Params[i].Width))
	}
	switch e.Text {
	case "twice":
		return modulo(new(big.Int).Add(args[0], args[0]), 4)
	case "same":
		return args[0]
	case "mix":
		return modulo(new(big.Int).Sub(args[0], twos(args[1], 4)), 8)
	case "last":
		return args[1]
	case "fixed":
		return big.NewInt(65)
	}
	return big.NewInt(5)
}
