package elab

import (
	"strconv"

	"sluicegate/api"
	"sluicegate/ast"
	"sluicegate/bv"
	"sluicegate/flat"
	"sluicegate/typed"
)

const integerWidth = 32

func (b *block) items(list []ast.Item) {
	for _, x := range list {
		if b.step(x.Pos) {
			b.item(x)
		}
	}
}

func (b *block) item(x ast.Item) {
	switch x.Kind {
	case ast.Net:
		b.net(x)
	case ast.Param:
		b.declareNumber(x.Pos, x.Text, b.constant(at(x.Exprs, 0)))
	case ast.Genvar:
		b.declareLoop(x.Pos, x.Text, genvar)
	case ast.Assign:
		target, width := b.targetOf(at(x.Exprs, 0), wire)
		b.addWire(x.Pos, x.Pos, target, b.resolve(at(x.Exprs, 1), width))
	case ast.Comb:
		b.process(x, flat.Comb)
	case ast.Clocked:
		if x.Text != clockName || !b.hasClock() {
			b.fail(x.Pos, api.ErrKind)
		}
		b.process(x, flat.Clocked)
	case ast.Func:
		b.function(x)
	case ast.Inst:
		b.instance(x)
	default:
		b.generated(x)
	}
}

// generated processes the blocks of items that depend on numbers.
func (b *block) generated(x ast.Item) {
	switch x.Kind {
	case ast.GenFor:
		b.loop(x.Pos, genvar, x.Text, x.Exprs, func(inner *block, n int) {
			inner.blocks(x.Items, "["+strconv.Itoa(n)+"]")
		})
	case ast.GenIf:
		if b.constant(at(x.Exprs, 0)) != 0 {
			b.blocks(x.Items, "")
		} else {
			b.blocks(x.Else, "")
		}
	default:
		b.fail(x.Pos, api.ErrForm)
	}
}

// blocks processes blocks, to whose names a suffix is added.
func (b *block) blocks(list []ast.Item, suffix string) {
	for _, x := range list {
		if x.Kind != ast.GenBlock {
			b.fail(x.Pos, api.ErrForm)
		}
		if b.step(x.Pos) {
			b.inner(x.Text + suffix).items(x.Items)
		}
	}
}

func (b *block) process(x ast.Item, kind int) {
	body := b.stmt(at(x.Body, 0))
	b.addProc(x.Pos, flat.Proc{Kind: kind, Pos: x.Pos, Body: body})
}

// net processes a declaration that is not one of a port.
func (b *block) net(x ast.Item) {
	switch x.Type {
	case "wire":
		b.addNet(x, wire)
	case "reg":
		b.addNet(x, register)
	case "integer":
		b.declareLoop(x.Pos, x.Text, integer)
	default:
		b.fail(x.Pos, api.ErrForm)
	}
}

func (b *block) addNet(x ast.Item, kind int) {
	sig, first := b.shape(x)
	b.declareSignal(x, kind, sig, func() int { return b.addStarted(x.Pos, sig, first) })
}

// shape returns the signal that a declaration describes, and its initial value,
// if there is one. Both are parts of the declaration, whose own errors come
// after theirs.
func (b *block) shape(x ast.Item) (sig typed.Sig, first []int) {
	sig = typed.Sig{Name: b.path + x.Text, Width: 1, Signed: x.Signed}
	bounds := b.constants(x.Exprs)
	first = b.constants(x.First)
	if len(bounds) > 0 {
		sig.Width = b.length(x.Pos, at(bounds, 1), bounds[0], api.MaxWidth)
	}
	if len(bounds) > 2 {
		sig.Words = b.length(x.Pos, bounds[2], at(bounds, 3), api.MaxWords)
	}
	return sig, first
}

// length returns how many numbers there are from zero to last. They must begin
// with 0.
func (b *block) length(pos api.Pos, zero, last, most int) int {
	if zero != 0 || last < 0 || last >= most {
		b.fail(pos, api.ErrRange)
	}
	return last + 1
}

// addStarted adds a signal with an initial value, if there is one, and returns
// its number.
func (b *block) addStarted(pos api.Pos, sig typed.Sig, first []int) int {
	num := b.addSignal(pos, sig)
	for _, n := range first {
		b.design.Starts = append(b.design.Starts, flat.Start{Sig: num, Val: vector(sig.Width, n)})
	}
	return num
}

// vector returns the lowest bits of n in two's complement.
func vector(width, n int) bv.Vec {
	v, _ := bv.New(width, uint64(n), uint64(n>>(strconv.IntSize-1)))
	return v
}
