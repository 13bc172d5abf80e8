package blast

import (
	"slices"

	"sluicegate/aig"
	"sluicegate/api"
	"sluicegate/bv"
	"sluicegate/net"
)

// builder adds to its graph. It keeps the first error, after which the literals
// that it returns have no meaning.
type builder struct {
	*aig.Graph
	err api.Errno
}

// gate is a method of a graph that returns a literal made of two others.
type gate func(x, y int) (int, api.Errno)

// kept returns a literal and keeps an error. With that, the literal is No.
func (b *builder) kept(lit int, err api.Errno) int {
	if b.err == api.OK {
		b.err = err
	}
	return lit
}

// join returns what a gate makes of two literals.
func (b *builder) join(g gate, x, y int) int { return b.kept(g(x, y)) }

// each returns what a gate makes of every two bits.
func (b *builder) each(g gate, x, y []int) []int {
	list := make([]int, len(x))
	for i := range x {
		list[i] = b.join(g, x[i], y[i])
	}
	return list
}

// all returns what a gate makes of a literal and all bits. It begins with the
// highest one, so that numbers with the same upper bits share nodes.
func (b *builder) all(g gate, lit int, x []int) int {
	for _, bit := range slices.Backward(x) {
		lit = b.join(g, lit, bit)
	}
	return lit
}

// any returns whether any bit is set.
func (b *builder) any(x []int) int { return b.all(b.Or, aig.No, x) }

// choose returns x if a condition holds, and y otherwise.
func (b *builder) choose(on int, x, y []int) []int {
	list := make([]int, len(x))
	for i := range x {
		list[i] = b.kept(b.Mux(on, x[i], y[i]))
	}
	return list
}

// inputs returns so many new inputs, or fewer after an error.
func (b *builder) inputs(width int) []int {
	var list []int
	for range width {
		if b.err != api.OK {
			break
		}
		list = append(list, b.kept(b.Input()))
	}
	return list
}

// nodes returns the bits of those nodes of a netlist on which anything depends.
func (b *builder) nodes(n *net.Net, r Result) [][]int {
	list := make([][]int, len(n.Nodes))
	for _, i := range n.Cone(ends(n)...) {
		if b.err != api.OK {
			break
		}
		x := n.Nodes[i]
		switch x.Kind {
		case net.In:
			list[i] = r.Ins[x.Num]
		case net.Reg:
			list[i] = r.Regs[x.Num]
		default:
			args := make([][]int, len(x.Args))
			for j, arg := range x.Args {
				args[j] = list[arg]
			}
			list[i] = b.node(x, args)
		}
	}
	return list
}

// ends returns the nodes to which registers, outputs and assertions refer.
func ends(n *net.Net) []int {
	var list []int
	for _, x := range n.Regs {
		list = append(list, x.Next)
	}
	for _, x := range n.Outs {
		list = append(list, x.Node)
	}
	for _, x := range n.Asserts {
		list = append(list, x.On, x.Is)
	}
	return list
}

// node returns the bits of a node that is neither an In nor a Reg, given those of its
// Args.
func (b *builder) node(x net.Node, args [][]int) []int {
	switch x.Kind {
	case net.Const:
		return constant(x.Val)
	case net.Pick:
		return []int{b.pick(args[0], args[1])}
	case net.Slice:
		return args[0][x.Lo : x.Lo+x.Width]
	case net.Un:
		return b.un(x.Op, args[0])
	case net.Bin:
		return b.bin(x.Op, args[0], args[1])
	case net.Mux:
		return b.choose(b.any(args[0]), args[1], args[2])
	case net.Cat:
		slices.Reverse(args)
		return slices.Concat(args...)
	}
	return extended(args[0], x.Width, x.Signed)
}

// constant returns the literals of a vector.
func constant(v bv.Vec) []int {
	list := repeated(aig.No, v.Width())
	for i := range list {
		if v.Bit(i) {
			list[i] = aig.Yes
		}
	}
	return list
}

// extended returns x with the given width. Bits that it does not have are No or,
// if it is signed, its highest bit.
func extended(x []int, width int, signed bool) []int {
	above := aig.No
	if signed {
		above = x[len(x)-1]
	}
	return slices.Concat(x, repeated(above, width-len(x)))[:width]
}

// repeated returns a list of so many equal literals.
func repeated(lit, count int) []int { return slices.Repeat([]int{lit}, max(count, 0)) }

// flipped returns x with the negation of each bit.
func flipped(x []int) []int {
	list := make([]int, len(x))
	for i, bit := range x {
		list[i] = aig.Not(bit)
	}
	return list
}
