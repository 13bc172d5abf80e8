package typed_test

import (
	"fmt"
	"math/big"
	"testing"

	"sluicegate/api"
	"sluicegate/ast"
	"sluicegate/bv"
	"sluicegate/sample"
	"sluicegate/typed"
)

// signals are the signals and memories of the tests; their numbers are their
// indices.
var signals = []typed.Sig{
	{Name: "a", Width: 4},
	{Name: "b", Width: 8},
	{Name: "c", Width: 4, Signed: true},
	{Name: "d", Width: 8, Signed: true},
	{Name: "z", Width: 1},
	{Name: "y", Width: 1, Signed: true},
	{Name: "u64", Width: 64},
	{Name: "s64", Width: 64, Signed: true},
	{Name: "u65", Width: 65},
	{Name: "s65", Width: 65, Signed: true},
	{Name: "u128", Width: 128},
	{Name: "s128", Width: 128, Signed: true},
	{Name: "m", Width: 8, Words: 4},
	{Name: "n", Width: 5, Signed: true, Words: 64},
	{Name: "one", Width: 128, Words: 1},
}

// scope returns the scope of the tests, with signals, numbers and functions.
func scope() typed.Scope {
	s := typed.Scope{}.Const("W", 3).Const("N", -1).Const("LEAST", -1<<31).Const("MOST", 1<<31-1).Const("OVER", 1<<31)
	for i, x := range signals {
		s = s.Sig(x.Name, i, x)
	}
	for name, f := range functions() {
		s = s.Func(name, f)
	}
	return s
}

// functions returns the functions of the tests. Their Values use no Resolve.
func functions() map[string]typed.Func {
	x4, x8, y4 := typed.Sig{Width: 4}, typed.Sig{Width: 8}, typed.Sig{Width: 4, Signed: true}
	first4, first8, second4 := typed.Signal(0, x4), typed.Signal(0, x8), typed.Signal(1, y4)
	twice := typed.Two(bv.Add, first4, first4)
	return map[string]typed.Func{
		"twice": {Params: []typed.Sig{x4}, Width: 4, Value: twice},
		"same":  {Params: []typed.Sig{y4}, Width: 4, Signed: true, Value: first4},
		"mix":   {Params: []typed.Sig{x8, y4}, Width: 8, Signed: true, Value: typed.Two(bv.Sub, first8, typed.Wide(second4, 8, true))},
		"last":  {Params: []typed.Sig{x8, y4}, Width: 4, Value: second4},
		"fixed": {Params: []typed.Sig{x8}, Width: 7, Signed: true, Value: typed.Num(vec("1000001"))},
		"none":  {Width: 3, Value: typed.Num(vec("101"))},
	}
}

// state is a State: the bits of signals, and of the words of memories, which
// are 0 if it does not say otherwise.
type state struct {
	sigs  map[int]bv.Vec
	words map[int][]bv.Vec
}

func (s state) Sig(n int) bv.Vec { return s.sigs[n] }

func (s state) Word(n, at int) bv.Vec {
	if at < len(s.words[n]) {
		return s.words[n][at]
	}
	if n < 0 || n >= len(signals) {
		return bv.Vec{}
	}
	return zero(signals[n].Width)
}

// start returns a state of all signals and words, whose numbers next returns.
func start(next func(width int) *big.Int) state {
	s := state{map[int]bv.Vec{}, map[int][]bv.Vec{}}
	for i, x := range signals {
		if x.Words == 0 {
			s.sigs[i] = vecOf(x.Width, next(x.Width))
		}
		for range x.Words {
			s.words[i] = append(s.words[i], vecOf(x.Width, next(x.Width)))
		}
	}
	return s
}

// usual returns a state in which a is 9, b is 200, and so on: the numbers of
// signed signals are negative, and word i of m is 10 times i.
func usual() state {
	s := start(func(width int) *big.Int { return new(big.Int).Sub(power(width), big.NewInt(2)) })
	for name, digits := range map[string]string{"a": "1001", "b": "11001000", "c": "1001", "d": "11001000", "z": "0", "y": "1"} {
		s.sigs[number(name)] = vec(digits)
	}
	for i := range s.words[number("m")] {
		s.words[number("m")][i] = vecOf(8, big.NewInt(int64(10*i)))
	}
	return s
}

// number returns the number of a signal.
func number(name string) int {
	for i, x := range signals {
		if x.Name == name {
			return i
		}
	}
	return -1
}

// ref returns a Ref of a signal of the tests.
func ref(name string) typed.Expr { return typed.Signal(number(name), signals[number(name)]) }

// vec returns the vector with the given digits.
func vec(digits string) bv.Vec {
	var list []bool
	for i := len(digits) - 1; i >= 0; i-- {
		list = append(list, digits[i] == '1')
	}
	v, _ := bv.Of(list...)
	return v
}

// vecOf returns the vector of a number modulo 2 to the power of width.
func vecOf(width int, n *big.Int) bv.Vec {
	n = modulo(n, width)
	low := new(big.Int).And(n, new(big.Int).SetUint64(1<<64-1)).Uint64()
	v, _ := bv.New(width, low, new(big.Int).Rsh(n, 64).Uint64())
	return v
}

func zero(width int) bv.Vec {
	v, _ := bv.New(width)
	return v
}

func power(n int) *big.Int { return new(big.Int).Lsh(big.NewInt(1), uint(n)) }

// modulo returns n modulo 2 to the power of width, never negative.
func modulo(n *big.Int, width int) *big.Int { return new(big.Int).Mod(n, power(width)) }

// twos returns the number of width bits that n is in two's complement.
func twos(n *big.Int, width int) *big.Int {
	if n.Bit(width-1) == 1 {
		return new(big.Int).Sub(n, power(width))
	}
	return n
}

// unsigned returns the number that a vector is.
func unsigned(v bv.Vec) *big.Int {
	n, _ := new(big.Int).SetString("0"+v.Text(), 2)
	return n
}

// expr returns the expression that a text is.
func expr(t *testing.T, text string) ast.Expr {
	t.Helper()
	e, ok := sample.Expr(text)
	if !ok {
		t.Fatalf("%q is no expression", text)
	}
	return e
}

// resolved returns the Expr for a text, which must have no error and be
// well-formed.
func resolved(t *testing.T, s typed.Scope, text string, width int) typed.Expr {
	t.Helper()
	e, pos, err := typed.Resolve(s, expr(t, text), width)
	if err != api.OK || pos != (api.Pos{}) {
		t.Fatalf("P12.2: %s: error %d at %v", text, err, pos)
	}
	if fault := faultOf(e); fault != "" {
		t.Errorf("P12.4: %s in %d bits: %s", text, width, fault)
	}
	return e
}

// show writes an expression.
func show(e typed.Expr) string { return fmt.Sprintf("%+v", e) }

// faultOf says why an expression is not well-formed, or has fields that should
// be zero, or nothing.
func faultOf(e typed.Expr) string {
	for _, arg := range e.Args {
		if fault := faultOf(arg); fault != "" {
			return fault
		}
	}
	plain, bare := typed.Expr{Kind: e.Kind, Width: e.Width}, e
	bare.Args = nil
	width := 0
	switch e.Kind {
	case typed.Const:
		plain.Val, width = e.Val, e.Val.Width()
	case typed.Ref, typed.Word:
		plain.Sig, width = e.Sig, e.Width
	case typed.Slice:
		plain.Lo, width = e.Lo, e.Width
	case typed.Ext:
		plain.Signed, width = e.Signed, e.Width
	case typed.Un, typed.Bin:
		plain.Op = e.Op
	}
	if show(plain) != show(bare) {
		return "a field is not zero: " + show(e)
	}
	if args := widthsOf(e.Args); !agrees(e, args, width) || e.Width < 1 || e.Width > api.MaxWidth {
		return fmt.Sprintf("the widths %v do not agree: %s", args, show(e))
	}
	return ""
}

func widthsOf(list []typed.Expr) []int {
	var widths []int
	for _, e := range list {
		widths = append(widths, e.Width)
	}
	return widths
}

// agrees reports whether the width of e is the one that is needed, for
// operations the one that these have for vectors as wide as the Args.
func agrees(e typed.Expr, args []int, width int) bool {
	count := map[int]int{typed.Word: 1, typed.Pick: 2, typed.Slice: 1, typed.Un: 1, typed.Bin: 2, typed.Mux: 3, typed.Ext: 1}
	if e.Kind == typed.Cat && len(args) == 0 || e.Kind != typed.Cat && len(args) != count[e.Kind] {
		return false
	}
	switch e.Kind {
	case typed.Pick:
		width = 1
	case typed.Slice:
		_, err := bv.Slice(zero(args[0]), e.Lo, e.Width)
		return err == api.OK
	case typed.Un:
		v, _ := bv.Un(e.Op, zero(args[0]))
		width = v.Width()
	case typed.Bin:
		v, _ := bv.Bin(e.Op, zero(args[0]), zero(args[1]))
		width = v.Width()
	case typed.Mux:
		width = args[1]
		if args[2] != width {
			return false
		}
	case typed.Cat:
		for _, x := range args {
			width += x
		}
	}
	return width == e.Width && e.Kind >= typed.Const && e.Kind <= typed.Ext
}
