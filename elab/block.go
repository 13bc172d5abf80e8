package elab

import (
	"maps"

	"sluicegate/api"
	"sluicegate/ast"
	"sluicegate/konst"
	"sluicegate/typed"
)

// The kinds of declarations.
const (
	number = iota + 1
	input
	wire
	register
	function
	integer
	genvar
	clock
)

// The kinds of names as a typed.Scope has them.
const (
	scopeNumber = iota + 1
	scopeSignal
	scopeFunction
)

// declaration is what a name is, and the level of the block that declares it.
type declaration struct {
	kind, level int
	function    typed.Func
}

// block is a module, a block of one, or a function. It has the names that are
// visible in it so far. A loop variable is in the scope only inside its loop,
// as a number, and the clock never.
type block struct {
	*elaborator
	path  string
	level int // how many others are around it
	names map[string]declaration
	scope typed.Scope
}

// newModule returns the block of a module, from which no other names are
// visible.
func (e *elaborator) newModule(path string) *block {
	return &block{elaborator: e, path: path, names: map[string]declaration{}}
}

// inner returns a block of the given name in b.
func (b *block) inner(name string) *block {
	return &block{b.elaborator, b.path + name + ".", b.level + 1, maps.Clone(b.names), b.scope}
}

// declare makes a name visible, except in the scope.
func (b *block) declare(pos api.Pos, name string, d declaration) {
	d.level = b.level
	if other, found := b.names[name]; found && other.level == b.level {
		b.fail(pos, api.ErrTwice)
	}
	b.names[name] = d
}

func (b *block) declareNumber(pos api.Pos, name string, n int) {
	b.declare(pos, name, declaration{kind: number})
	b.scope = b.scope.Const(name, n)
}

func (b *block) declareFunction(pos api.Pos, name string, f typed.Func) {
	b.declare(pos, name, declaration{kind: function, function: f})
	b.scope = b.scope.Func(name, f)
}

// declareSignal declares a signal of a kind, whose number add returns.
func (b *block) declareSignal(x ast.Item, kind int, sig typed.Sig, add func() int) {
	b.declare(x.Pos, x.Text, declaration{kind: kind})
	b.scope = b.scope.Sig(x.Text, add(), sig)
}

// declareLoop declares a loop variable of a kind. It hides what the name is
// around the block. Since a Scope only loses all names of a kind, the name
// becomes a function before the functions go and the others come back.
func (b *block) declareLoop(pos api.Pos, name string, kind int) {
	b.declare(pos, name, declaration{kind: kind})
	if found, _, _ := b.scope.Find(name); found == 0 {
		return
	}
	b.scope = b.scope.Func(name, typed.Func{}).Without(scopeFunction)
	for other, d := range b.names {
		if d.kind == function {
			b.scope = b.scope.Func(other, d.function)
		}
	}
}

// constant returns the value of a constant expression, or 0 after an error.
func (b *block) constant(e ast.Expr) int {
	if b.err != api.OK {
		return 0
	}
	n, pos, err := konst.Eval(e, b.scope.Env())
	b.fail(pos, err)
	return n
}

func (b *block) constants(list []ast.Expr) []int {
	var numbers []int
	for _, e := range list {
		numbers = append(numbers, b.constant(e))
	}
	return numbers
}

// resolve returns the expression for e in a context of the given width, or a
// zero one after an error.
func (b *block) resolve(e ast.Expr, width int) typed.Expr {
	if b.err != api.OK {
		return typed.Expr{}
	}
	x, pos, err := typed.Resolve(b.scope, e, width)
	b.fail(pos, err)
	return x
}

// loop calls round for each round of a loop whose variable is declared as kind,
// with a block in which the variable is a number, and with that number.
func (b *block) loop(pos api.Pos, kind int, name string, exprs []ast.Expr, round func(inner *block, n int)) {
	if b.names[name].kind != kind {
		b.fail(pos, api.ErrName)
	}
	n := b.constant(at(exprs, 0))
	for rounds := 0; b.err == api.OK; {
		inner := *b
		inner.scope = b.scope.Const(name, n)
		if inner.constant(at(exprs, 1)) == 0 {
			return
		}
		b.count(pos, &rounds, api.MaxLoop)
		if b.err == api.OK {
			round(&inner, n)
		}
		n = inner.constant(at(exprs, 2))
	}
}
