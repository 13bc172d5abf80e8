package elab

import (
	"sluicegate/api"
	"sluicegate/ast"
	"sluicegate/flat"
	"sluicegate/typed"
)

// target returns what an assignment to e sets, and its width.
func (b *block) target(e ast.Expr) (flat.Target, int) {
	if _, num, x := b.scope.Find(e.Text); e.Kind == ast.Index && x.Words != 0 {
		return flat.Target{Sig: num, Index: []typed.Expr{b.resolve(at(e.Args, 0), 0)}}, x.Width
	}
	x := b.resolve(e, 0)
	if b.err == api.OK && (e.Kind == ast.Name || e.Kind == ast.Index || e.Kind == ast.Range) {
		switch x.Kind {
		case typed.Ref:
			return flat.Target{Sig: x.Sig, Width: x.Width}, x.Width
		case typed.Slice:
			return flat.Target{Sig: x.Args[0].Sig, Lo: x.Lo, Width: x.Width}, x.Width
		case typed.Pick:
			return flat.Target{Sig: x.Args[0].Sig, Index: x.Args[1:]}, 1
		}
	}
	b.fail(e.Pos, api.ErrKind)
	return flat.Target{}, 0
}

// targetOf returns a target that is declared as kind.
func (b *block) targetOf(e ast.Expr, kind int) (flat.Target, int) {
	target, width := b.target(e)
	switch b.names[e.Text].kind {
	case kind:
	case input:
		b.fail(e.Pos, api.ErrDrive)
	default:
		b.fail(e.Pos, api.ErrKind)
	}
	return target, width
}
