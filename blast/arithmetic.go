package blast

import (
	"slices"

	"sluicegate/aig"
)

// sum returns x + y + carry, and the carry beyond the highest bit.
func (b *builder) sum(x, y []int, carry int) ([]int, int) {
	list := make([]int, len(x))
	for i := range x {
		part := b.join(b.Xor, x[i], y[i])
		list[i] = b.join(b.Xor, part, carry)
		carry = b.join(b.Or, b.join(b.And, x[i], y[i]), b.join(b.And, part, carry))
	}
	return list, carry
}

// difference returns x - y, and whether y is at most x.
func (b *builder) difference(x, y []int) ([]int, int) { return b.sum(x, flipped(y), aig.Yes) }

// negated returns 0 - x if a condition holds, and x otherwise.
func (b *builder) negated(on int, x []int) []int {
	inverted := b.each(b.Xor, x, repeated(on, len(x)))
	list, _ := b.sum(inverted, repeated(aig.No, len(x)), on)
	return list
}

// less returns whether x is less than y: whether x - y borrows from a bit that x
// does not have.
func (b *builder) less(x, y []int) int {
	borrow := aig.No
	for i := range x {
		borrow = b.majority(aig.Not(x[i]), y[i], borrow)
	}
	return borrow
}

// majority returns whether at least two of three literals are true. If the last one
// is known, as at the lowest bit of a number, an AND is enough.
func (b *builder) majority(x, y, z int) int {
	switch z {
	case aig.No:
		return b.join(b.And, x, y)
	case aig.Yes:
		return b.join(b.Or, x, y)
	}
	return b.join(b.Or, b.join(b.And, x, y), b.join(b.And, b.join(b.Or, x, y), z))
}

// product adds up x for each bit of y. The one with more bits that are known to be
// 0 is y, so that there is little to add up.
func (b *builder) product(x, y []int) []int {
	if zeros(x) > zeros(y) {
		x, y = y, x
	}
	list := repeated(aig.No, len(x))
	for i, bit := range y {
		upper := list[i:]
		row := b.each(b.And, x[:len(upper)], repeated(bit, len(upper)))
		sum, _ := b.sum(upper, row, aig.No)
		copy(upper, sum)
	}
	return list
}

// zeros returns how many bits are known to be 0.
func zeros(x []int) int {
	count := 0
	for _, bit := range x {
		if bit == aig.No {
			count++
		}
	}
	return count
}

// divide performs long division, one bit of the quotient at a time, from the highest
// one on. The remainder so far is less than y, so that it needs no more bits than y,
// unless y is 0. If no bit of y is left out, that case needs no attention: 0 always
// fits, and x remains.
func (b *builder) divide(x, y []int) (quotient, remainder []int) {
	divisor := trimmed(y)
	quotient = make([]int, len(x))
	for i, bit := range slices.Backward(x) {
		remainder = trimmed(append([]int{bit}, remainder...))
		quotient[i], remainder = b.step(remainder, divisor)
	}
	remainder = extended(remainder, len(x), false)
	if len(divisor) == len(y) {
		return quotient, remainder
	}
	isZero := aig.Not(b.any(divisor))
	return b.choose(isZero, repeated(aig.Yes, len(x)), quotient), b.choose(isZero, x, remainder)
}

// step returns whether a divisor is at most x, and the remainder of x after it has
// been subtracted, if it is, with no more bits than the divisor.
func (b *builder) step(x, divisor []int) (int, []int) {
	size := min(len(x), len(divisor))
	difference, fits := b.difference(x, extended(divisor, len(x), false))
	fits = b.join(b.And, fits, aig.Not(b.any(divisor[size:])))
	return fits, b.choose(fits, difference, x)[:size]
}

// trimmed returns x without those of its highest bits that are known to be 0.
func trimmed(x []int) []int {
	for len(x) > 0 && x[len(x)-1] == aig.No {
		x = x[:len(x)-1]
	}
	return x
}

// signedQuotient is rounded towards 0. Like that of unsigned numbers, it has all
// bits set if y is 0.
func (b *builder) signedQuotient(x, y []int) []int {
	quotient, _ := b.divide(b.negated(sign(x), x), b.negated(sign(y), y))
	isNegative := b.join(b.And, b.join(b.Xor, sign(x), sign(y)), b.any(y))
	return b.negated(isNegative, quotient)
}

// signedRemainder has the sign of x.
func (b *builder) signedRemainder(x, y []int) []int {
	_, remainder := b.divide(b.negated(sign(x), x), b.negated(sign(y), y))
	return b.negated(sign(x), remainder)
}
