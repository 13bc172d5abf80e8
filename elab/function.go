package elab

import (
	"slices"

	"sluicegate/api"
	"sluicegate/ast"
	"sluicegate/konst"
	"sluicegate/typed"
)

// routine is a function while its statements are executed. Its variables are
// the signals of its block, by number, and it has their values so far.
type routine struct {
	*block
	values []bits
	params []typed.Sig
}

// function declares a function.
func (b *block) function(x ast.Item) {
	sig := b.variable(x)
	inner := &block{b.elaborator, b.path, b.level, map[string]declaration{}, b.scope.Without(scopeSignal)}
	r := &routine{block: inner}
	r.addVariable(x, register, sig)
	for _, local := range x.Items {
		r.local(local)
	}
	r.execute(at(x.Body, 0))
	if b.err != api.OK {
		return
	}
	value := r.values[0].tree()
	if value.nodes > api.MaxNodes {
		value = tooLong(sig.Width)
	}
	b.declareFunction(x.Pos, x.Text, typed.Func{Params: r.params, Width: sig.Width, Signed: sig.Signed, Value: value.expr})
}

// local declares a variable of the function.
func (r *routine) local(x ast.Item) {
	switch sig := r.variable(x); {
	case x.Kind != ast.Net:
		r.fail(x.Pos, api.ErrForm)
	case x.Type == "input":
		r.addVariable(x, input, sig)
	case x.Type == "reg":
		r.addVariable(x, register, sig)
	case x.Type == "integer":
		sig.Width, sig.Signed = integerWidth, true
		r.addVariable(x, integer, sig)
	default:
		r.fail(x.Pos, api.ErrForm)
	}
}

// variable returns the signal that a declaration of a variable describes.
func (b *block) variable(x ast.Item) typed.Sig {
	sig, _ := b.shape(x)
	if sig.Words != 0 {
		b.fail(x.Pos, api.ErrForm)
	}
	return sig
}

// addVariable adds a variable, which is an argument or 0 at first.
func (r *routine) addVariable(x ast.Item, kind int, sig typed.Sig) {
	value := typed.Num(vector(sig.Width, 0))
	if kind == input {
		value = typed.Signal(len(r.params), sig)
		r.params = append(r.params, sig)
	}
	r.declareSignal(x, kind, sig, func() int { return len(r.values) })
	r.values = append(r.values, whole(&tree{value, 1}))
}

func (r *routine) execute(s ast.Stmt) {
	if !r.step(s.Pos) {
		return
	}
	switch s.Kind {
	case ast.Block:
		for _, inner := range s.Body {
			r.execute(inner)
		}
	case ast.Set:
		r.assign(s)
	case ast.Later, ast.Assert:
		r.fail(s.Pos, api.ErrKind)
	case ast.If, ast.Case:
		r.choose(s)
	case ast.For:
		around := r.block
		r.loop(s.Pos, integer, s.Text, s.Exprs, func(inner *block, _ int) {
			r.block = inner
			r.execute(at(s.Body, 0))
		})
		r.block = around
	case ast.Null:
	default:
		r.fail(s.Pos, api.ErrForm)
	}
}

func (r *routine) assign(s ast.Stmt) {
	e := at(s.Exprs, 0)
	r.wantConstant(e)
	target, width := r.target(e)
	value := r.value(at(s.Exprs, 1), width)
	if r.err == api.OK {
		r.values[target.Sig] = r.values[target.Sig].with(target.Lo, whole(value))
	}
}

// wantConstant fails if a target has an Index that is not constant.
func (r *routine) wantConstant(e ast.Expr) {
	if e.Kind != ast.Index {
		return
	}
	if kind, _, _ := r.scope.Find(e.Text); kind == 0 {
		r.fail(e.Pos, api.ErrName)
	}
	if _, _, err := konst.Eval(at(e.Args, 0), r.scope.Env()); err != api.OK {
		r.fail(e.Pos, api.ErrKind)
	}
}

// choose executes each branch of an If or a Case with the values before it, and
// then chooses between the results.
func (r *routine) choose(s ast.Stmt) {
	before := r.values
	last := before
	var conditions []*tree
	var results [][]bits
	r.branches(s, func(condition []ast.Expr, body ast.Stmt) {
		r.values = slices.Clone(before)
		if len(condition) == 0 {
			r.execute(body)
			last = r.values
			return
		}
		conditions = append(conditions, r.value(condition[0], 0))
		r.execute(body)
		results = append(results, r.values)
	})
	for i, c := range slices.Backward(conditions) {
		last = chosen(c, results[i], last)
	}
	r.values = last
}

// value returns the value of an expression, in a context of the given width, as
// a tree that refers to arguments only.
func (r *routine) value(e ast.Expr, width int) *tree { return r.inserted(r.resolve(e, width)) }

// inserted returns an expression with the values of variables in place of them.
func (r *routine) inserted(e typed.Expr) *tree {
	switch {
	case e.Kind == typed.Ref:
		return r.values[e.Sig].tree()
	case e.Kind == typed.Slice && e.Args[0].Kind == typed.Ref:
		return r.values[e.Args[0].Sig].part(e.Lo, e.Width).tree()
	}
	args := make([]*tree, len(e.Args))
	for i, arg := range e.Args {
		args[i] = r.inserted(arg)
	}
	return newTree(e, args...)
}
