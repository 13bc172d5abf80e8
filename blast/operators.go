package blast

import (
	"math/bits"
	"slices"

	"sluicegate/aig"
	"sluicegate/bv"
)

// un returns a unary operation of bv.
func (b *builder) un(op int, x []int) []int {
	switch op {
	case bv.Not:
		return flipped(x)
	case bv.Neg:
		return b.negated(aig.Yes, x)
	case bv.RedAnd:
		return []int{b.all(b.And, aig.Yes, x)}
	case bv.RedOr:
		return []int{b.any(x)}
	case bv.RedXor:
		return []int{b.all(b.Xor, aig.No, x)}
	}
	return []int{aig.Not(b.any(x))}
}

// bin returns a binary operation of bv on numbers of the same width.
func (b *builder) bin(op int, x, y []int) []int {
	switch op {
	case bv.Add:
		sum, _ := b.sum(x, y, aig.No)
		return sum
	case bv.Sub:
		difference, _ := b.difference(x, y)
		return difference
	case bv.Mul:
		return b.product(x, y)
	case bv.Div:
		quotient, _ := b.divide(x, y)
		return quotient
	case bv.Rem:
		_, remainder := b.divide(x, y)
		return remainder
	case bv.Sdiv:
		return b.signedQuotient(x, y)
	case bv.Srem:
		return b.signedRemainder(x, y)
	case bv.And:
		return b.each(b.And, x, y)
	case bv.Or:
		return b.each(b.Or, x, y)
	case bv.Xor:
		return b.each(b.Xor, x, y)
	case bv.Shl:
		return reversed(b.shiftedDown(reversed(x), y, aig.No))
	case bv.Shr:
		return b.shiftedDown(x, y, aig.No)
	case bv.Sar:
		return b.shiftedDown(x, y, sign(x))
	}
	return []int{b.compared(op, x, y)}
}

// compared returns whether a comparison of bv holds.
func (b *builder) compared(op int, x, y []int) int {
	switch op {
	case bv.Eq:
		return aig.Not(b.differ(x, y))
	case bv.Ne:
		return b.differ(x, y)
	case bv.Ult:
		return b.less(x, y)
	case bv.Ule:
		return aig.Not(b.less(y, x))
	case bv.Slt:
		return b.less(raised(x), raised(y))
	}
	return aig.Not(b.less(raised(y), raised(x)))
}

// differ returns whether any bits of two numbers differ.
func (b *builder) differ(x, y []int) int { return b.any(b.each(b.Xor, x, y)) }

// shiftedDown returns x with its bits moved towards the least significant one, by
// the number y. Bits that x does not have are fill.
func (b *builder) shiftedDown(x, y []int, fill int) []int {
	steps := min(indexWidth(len(x)), len(y))
	for i, bit := range y[:steps] {
		moved := slices.Concat(x[1<<i:], repeated(fill, 1<<i))
		x = b.choose(bit, moved, x)
	}
	return b.choose(b.any(y[steps:]), repeated(fill, len(x)), x)
}

// pick returns the bit of x with the number at, or No if there is none. Each bit of
// at chooses between two neighbours.
func (b *builder) pick(x, at []int) int {
	steps := min(indexWidth(len(x)), len(at))
	for _, bit := range at[:steps] {
		var list []int
		for pair := range slices.Chunk(extended(x, len(x)+len(x)%2, false), 2) {
			list = append(list, b.kept(b.Mux(bit, pair[1], pair[0])))
		}
		x = list
	}
	return b.join(b.And, x[0], aig.Not(b.any(at[steps:])))
}

// indexWidth returns how many bits the numbers of so many bits need.
func indexWidth(count int) int { return bits.Len(uint(count - 1)) }

// sign returns the bit that tells whether a signed number is negative.
func sign(x []int) int { return x[len(x)-1] }

// raised returns the unsigned number whose order among others is that of a signed
// number.
func raised(x []int) []int {
	list := slices.Clone(x)
	list[len(list)-1] = aig.Not(sign(x))
	return list
}

// reversed returns the bits of x in the opposite order.
func reversed(x []int) []int {
	list := slices.Clone(x)
	slices.Reverse(list)
	return list
}
