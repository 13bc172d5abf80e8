package blast_test

import (
	"slices"
	"testing"

	"sluicegate/api"
	"sluicegate/bv"
	"sluicegate/net"
	"sluicegate/sample"
)

// TestP22_1Bin: all operations on all numbers of small widths.
func TestP22_1Bin(t *testing.T) {
	for op := range bv.Sle + 1 {
		for width := 1; width <= 5; width++ {
			n := &net.Net{}
			out(n, bin(t, n, op, input(t, n, width), input(t, n, width)))
			mustAgreeAlways(t, n)
		}
	}
}

// TestP22_1Same: both operands are the same, or one is made of the other.
func TestP22_1Same(t *testing.T) {
	for op := range bv.Sle + 1 {
		for width := 1; width <= 5; width++ {
			n := &net.Net{}
			x := input(t, n, width)
			out(n, bin(t, n, op, x, x))
			for _, inner := range []int{bv.Not, bv.Neg} {
				y := un(t, n, inner, x)
				out(n, bin(t, n, op, x, y))
				out(n, bin(t, n, op, y, x))
			}
			mustAgreeAlways(t, n)
		}
	}
}

// TestP22_1Constants: one operand, or both, are constants.
func TestP22_1Constants(t *testing.T) {
	for op := range bv.Sle + 1 {
		for width := 1; width <= 4; width++ {
			n := &net.Net{}
			x := input(t, n, width)
			for i := range uint64(1) << width {
				c := number(t, n, vec(width, i))
				out(n, bin(t, n, op, x, c))
				out(n, bin(t, n, op, c, x))
				for j := range uint64(1) << width {
					out(n, bin(t, n, op, c, number(t, n, vec(width, j))))
				}
			}
			mustAgreeAlways(t, n)
		}
	}
}

// TestP22_1Extended: bits of the operands are known, or equal to each other.
func TestP22_1Extended(t *testing.T) {
	for op := range bv.Sle + 1 {
		n := &net.Net{}
		x, y := input(t, n, 3), input(t, n, 3)
		for _, width := range []int{5, 6} {
			var operands []int
			for _, signed := range []bool{false, true} {
				operands = append(operands, wide(t, n, y, width, signed), wide(t, n, x, width, signed))
			}
			shifted := add(t, n, net.Node{Kind: net.Cat, Width: width, Args: []int{x, number(t, n, vec(width-3, 0))}})
			raised := add(t, n, net.Node{Kind: net.Cat, Width: width, Args: []int{number(t, n, vec(width-3, 7)), y}})
			operands = append(operands, shifted, raised)
			for _, i := range operands {
				for _, j := range operands {
					out(n, bin(t, n, op, i, j))
				}
			}
		}
		mustAgreeAlways(t, n)
	}
}

// near returns a number that is often 0, small, or near to another one.
func near(pick sample.Choice, other bv.Vec) bv.Vec {
	width := other.Width()
	switch pick(8) {
	case 0:
		return vec(width, 0)
	case 1, 2:
		return vec(width, uint64(pick(2*width)))
	case 3:
		return other
	case 4:
		v, _ := bv.Bin(bv.Add, other, vec(width, uint64(pick(3))))
		return v
	case 5:
		v, _ := bv.Un(bv.Neg, vec(width, uint64(pick(2*width))))
		return v
	case 6:
		v, _ := bv.Put(vec(width, 0), width-1, vec(1, 1))
		return v
	}
	return pick.Vec(width)
}

// TestP22_1WideBin: widths up to the greatest one. There is no room for products
// and quotients of all of these.
func TestP22_1WideBin(t *testing.T) {
	pick := chooser(22, 1)
	for op := range bv.Sle + 1 {
		for _, width := range []int{7, 8, 9, 16, 31, 32, 33, 63, 64, 65, 100, 127, api.MaxWidth} {
			if width > 65 && op >= bv.Mul && op <= bv.Srem {
				continue
			}
			n := &net.Net{}
			out(n, bin(t, n, op, input(t, n, width), input(t, n, width)))
			r := mustBlast(t, n)
			for range 60 {
				x := pick.Vec(width)
				y := near(pick, x)
				mustAgree(t, n, r, net.Values{Ins: []bv.Vec{x, y}})
				mustAgree(t, n, r, net.Values{Ins: []bv.Vec{y, x}})
			}
		}
	}
}

// TestP22_1WideConstants: products, quotients and shifts of great widths, where one
// operand has few bits.
func TestP22_1WideConstants(t *testing.T) {
	pick := chooser(22, 2)
	for op := bv.Mul; op <= bv.Sar; op++ {
		for _, width := range []int{32, 64, 100, api.MaxWidth} {
			for _, c := range []uint64{0, 1, 3, 10, 100, 1000} {
				n := &net.Net{}
				isSigned := op == bv.Sdiv || op == bv.Srem
				x, y := input(t, n, width), wide(t, n, input(t, n, 4), width, isSigned)
				i := number(t, n, vec(width, c))
				for _, pair := range [][2]int{{x, i}, {y, i}, {i, y}, {y, y}} {
					out(n, bin(t, n, op, pair[0], pair[1]))
				}
				r := mustBlast(t, n)
				for range 20 {
					mustAgree(t, n, r, pick.Values(n))
				}
			}
		}
	}
}

func TestP22_1Un(t *testing.T) {
	for op := range bv.Zero + 1 {
		for width := 1; width <= 8; width++ {
			n := &net.Net{}
			x := input(t, n, width)
			out(n, un(t, n, op, x))
			out(n, un(t, n, op, wide(t, n, x, width+2, true)))
			out(n, un(t, n, op, wide(t, n, x, width+2, false)))
			for i := range uint64(3) {
				out(n, un(t, n, op, number(t, n, vec(width, i-1))))
			}
			mustAgreeAlways(t, n)
		}
		pick := chooser(22, 3)
		for _, width := range []int{31, 32, 33, 63, 64, 65, 127, api.MaxWidth} {
			n := &net.Net{}
			out(n, un(t, n, op, input(t, n, width)))
			r := mustBlast(t, n)
			for range 30 {
				x := pick.Vec(width)
				mustAgree(t, n, r, net.Values{Ins: []bv.Vec{x}})
				mustAgree(t, n, r, net.Values{Ins: []bv.Vec{near(pick, x)}})
			}
		}
	}
}

// TestP22_1Pick: a bit that does not exist is 0.
func TestP22_1Pick(t *testing.T) {
	pick := func(n *net.Net, x, at int) {
		out(n, add(t, n, net.Node{Kind: net.Pick, Width: 1, Args: []int{x, at}}))
	}
	for width := 1; width <= 9; width++ {
		for index := 1; index <= 5; index++ {
			n := &net.Net{}
			x := input(t, n, width)
			i := input(t, n, index)
			pick(n, x, i)
			pick(n, i, x)
			pick(n, x, x)
			pick(n, number(t, n, vec(width, 0b101101)), i)
			for at := range uint64(12) {
				pick(n, x, number(t, n, vec(5, at)))
			}
			mustAgreeAlways(t, n)
		}
	}
	choice := chooser(22, 4)
	for _, width := range []int{1, 33, 64, 65, 127, api.MaxWidth} {
		for _, index := range []int{1, 6, 7, 8, 64, api.MaxWidth} {
			n := &net.Net{}
			pick(n, input(t, n, width), input(t, n, index))
			r := mustBlast(t, n)
			for range 100 {
				at := vec(index, uint64(choice(width+3)))
				if choice(5) == 0 {
					at, _ = bv.Put(at, index-1, vec(1, 1))
				}
				mustAgree(t, n, r, net.Values{Ins: []bv.Vec{choice.Vec(width), at}})
			}
		}
	}
}

// TestP22_1Shifts: all numbers by which a small vector can be shifted, and great
// ones.
func TestP22_1Shifts(t *testing.T) {
	for op := bv.Shl; op <= bv.Sar; op++ {
		for width := 1; width <= 8; width++ {
			n := &net.Net{}
			x := input(t, n, width)
			for by := range uint64(width + 2) {
				out(n, bin(t, n, op, x, number(t, n, vec(width, by))))
			}
			mustAgreeAlways(t, n)
		}
		for _, width := range []int{63, 64, 65, 100, 127, api.MaxWidth} {
			n := &net.Net{}
			out(n, bin(t, n, op, input(t, n, width), input(t, n, width)))
			r := mustBlast(t, n)
			x := slices.Repeat([]bool{true, false, false, true, true}, 26)[:width]
			for _, sign := range []bool{false, true} {
				x[width-1] = sign
				v, _ := bv.Of(x...)
				for by := range uint64(width + 2) {
					mustAgree(t, n, r, net.Values{Ins: []bv.Vec{v, vec(width, by)}})
				}
				for at := range width {
					by, _ := bv.Put(vec(width, 0), at, vec(1, 1))
					mustAgree(t, n, r, net.Values{Ins: []bv.Vec{v, by}})
				}
			}
		}
	}
}

// TestP22_1Parts: Slice, Cat, Ext and Const.
func TestP22_1Parts(t *testing.T) {
	n := &net.Net{}
	x, y := input(t, n, 5), input(t, n, 3)
	for lo := range 5 {
		for width := 1; width <= 5-lo; width++ {
			out(n, add(t, n, net.Node{Kind: net.Slice, Width: width, Lo: lo, Args: []int{x}}))
		}
	}
	for _, list := range [][]int{{x}, {x, y}, {y, x}, {y, y, y}, {x, y, x}, slices.Repeat([]int{x}, 25)} {
		width := 0
		for _, i := range list {
			width += n.Nodes[i].Width
		}
		out(n, add(t, n, net.Node{Kind: net.Cat, Width: width, Args: list}))
	}
	for _, width := range []int{1, 2, 3, 4, 5, 6, 7, 64, 65, api.MaxWidth} {
		for _, i := range []int{x, y} {
			out(n, wide(t, n, i, width, false))
			out(n, wide(t, n, i, width, true))
		}
		for _, c := range []uint64{0, 1, 2, 0xa5a5a5a5a5a5a5a5} {
			out(n, number(t, n, vec(width, c)))
		}
	}
	mustAgreeAlways(t, n)
}

// TestP22_1Mux: a condition of any width.
func TestP22_1Mux(t *testing.T) {
	for width := 1; width <= 3; width++ {
		for on := 1; on <= 4; on++ {
			n := &net.Net{}
			c, x, y := input(t, n, on), input(t, n, width), input(t, n, width)
			zero, two := number(t, n, vec(on, 0)), number(t, n, vec(2, 2))
			for _, list := range [][]int{{c, x, y}, {c, y, x}, {c, x, x}, {x, x, y}, {y, x, y}, {zero, x, y}, {two, x, y}, {two, y, x}} {
				out(n, add(t, n, net.Node{Kind: net.Mux, Width: width, Args: list}))
			}
			mustAgreeAlways(t, n)
		}
	}
}

// TestP22_1Few: how many nodes there are is free, but few are enough if an operand is
// a small constant, or if both have few bits.
func TestP22_1Few(t *testing.T) {
	n := &net.Net{}
	all, low, other := input(t, n, 32), wide(t, n, input(t, n, 4), 32, false), wide(t, n, input(t, n, 4), 32, false)
	five, ten := number(t, n, vec(32, 5)), number(t, n, vec(32, 10))
	for _, x := range []struct{ op, left, right, most int }{
		{bv.Mul, all, five, 210}, {bv.Mul, five, all, 210}, {bv.Mul, low, other, 90}, {bv.Mul, ten, low, 20},
		{bv.Div, all, five, 700}, {bv.Div, low, other, 120}, {bv.Div, low, ten, 25},
		{bv.Rem, all, five, 700}, {bv.Rem, low, other, 120}, {bv.Rem, low, ten, 25},
	} {
		n.Outs = nil
		out(n, bin(t, n, x.op, x.left, x.right))
		r := mustBlast(t, n)
		if count := r.Graph.Len() - 1 - r.Graph.Inputs(); count > x.most {
			t.Errorf("P22.1: operation %d of the nodes %d and %d: %d ANDs", x.op, x.left, x.right, count)
		}
	}
}
