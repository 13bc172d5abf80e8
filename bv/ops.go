package bv

import (
	"math/bits"

	"sluicegate/api"
)

// Bin applies a binary operation to two vectors of the same width.
func Bin(op int, a, b Vec) (Vec, api.Errno) {
	if op < Add || op > Sle {
		return Vec{}, api.ErrInval
	}
	if a.width != b.width || a.width == 0 {
		return Vec{}, api.ErrWidth
	}
	switch {
	case op <= Srem:
		return arithmetic(op, a, b), api.OK
	case op <= Xor:
		return logic(op, a, b), api.OK
	case op <= Sar:
		return shift(op, a, b.Num(a.width)), api.OK
	}
	return truth(holds(op, a, b)), api.OK
}

// Un applies a unary operation.
func Un(op int, a Vec) (Vec, api.Errno) {
	if op < Not || op > Zero {
		return Vec{}, api.ErrInval
	}
	if a.width == 0 {
		return Vec{}, api.ErrWidth
	}
	switch op {
	case Not:
		return invert(a), api.OK
	case Neg:
		return negate(a), api.OK
	case RedAnd:
		return truth(a == ones(a.width)), api.OK
	case RedOr:
		return truth(!isZero(a)), api.OK
	case RedXor:
		return truth(isOdd(a)), api.OK
	}
	return truth(isZero(a)), api.OK
}

func arithmetic(op int, a, b Vec) Vec {
	switch op {
	case Add:
		return sum(a, b, 0)
	case Sub:
		return difference(a, b)
	case Mul:
		return product(a, b)
	case Div:
		quotient, _ := divide(a, b)
		return quotient
	case Rem:
		_, remainder := divide(a, b)
		return remainder
	case Sdiv:
		quotient, _ := divideSigned(a, b)
		return quotient
	}
	_, remainder := divideSigned(a, b)
	return remainder
}

func logic(op int, a, b Vec) Vec {
	switch op {
	case And:
		return bitwise(a, b, func(x, y uint64) uint64 { return x & y })
	case Or:
		return bitwise(a, b, func(x, y uint64) uint64 { return x | y })
	}
	return bitwise(a, b, func(x, y uint64) uint64 { return x ^ y })
}

func shift(op int, a Vec, by int) Vec {
	switch op {
	case Shl:
		return shiftUp(a, by)
	case Shr:
		return shiftDown(a, by)
	}
	// Copies of a set sign bit are zeros that are inverted afterwards.
	if isNegative(a) {
		return invert(shiftDown(invert(a), by))
	}
	return shiftDown(a, by)
}

func holds(op int, a, b Vec) bool {
	switch op {
	case Eq:
		return a == b
	case Ne:
		return a != b
	case Ult:
		return less(a, b)
	case Ule:
		return !less(b, a)
	case Slt:
		return lessSigned(a, b)
	}
	return !lessSigned(b, a)
}

// bitwise returns the vector of a's width whose words are those of a and b,
// combined by f.
func bitwise(a, b Vec, f func(x, y uint64) uint64) Vec {
	for i := range wordCount {
		a.words[i] = f(a.words[i], b.words[i])
	}
	return a.trimmed()
}

func invert(a Vec) Vec {
	return bitwise(a, a, func(x, _ uint64) uint64 { return ^x })
}

// sum returns a + b + carry; carry is 0 or 1.
func sum(a, b Vec, carry uint64) Vec {
	for i := range wordCount {
		a.words[i], carry = bits.Add64(a.words[i], b.words[i], carry)
	}
	return a.trimmed()
}

func difference(a, b Vec) Vec { return sum(a, invert(b), 1) }

func negate(a Vec) Vec { return difference(Vec{width: a.width}, a) }

// product relies on wordCount being 2: what exceeds the second word is lost.
func product(a, b Vec) Vec {
	high, low := bits.Mul64(a.words[0], b.words[0])
	high += a.words[0]*b.words[1] + a.words[1]*b.words[0]
	a.words = [wordCount]uint64{low, high}
	return a.trimmed()
}

// divide performs long division, one bit of the quotient at a time.
func divide(a, b Vec) (quotient, remainder Vec) {
	if isZero(b) {
		return ones(a.width), a
	}
	quotient, remainder = Vec{width: a.width}, Vec{width: a.width}
	for i := range a.width {
		// The remainder may have one bit too many for the width before b is
		// subtracted. That bit then shows that b is at most the remainder.
		over := isNegative(remainder)
		remainder = sum(remainder, remainder, bitOf(a, a.width-1-i))
		quotient = shiftUp(quotient, 1)
		if over || !less(remainder, b) {
			remainder = difference(remainder, b)
			quotient.words[0] |= 1
		}
	}
	return quotient, remainder
}

func divideSigned(a, b Vec) (quotient, remainder Vec) {
	if isZero(b) {
		return divide(a, b)
	}
	quotient, remainder = divide(magnitude(a), magnitude(b))
	if isNegative(a) != isNegative(b) {
		quotient = negate(quotient)
	}
	if isNegative(a) {
		remainder = negate(remainder)
	}
	return quotient, remainder
}

// magnitude returns the absolute value of a signed number as an unsigned one,
// which the width always has room for.
func magnitude(a Vec) Vec {
	if isNegative(a) {
		return negate(a)
	}
	return a
}

// shiftUp relies on wordCount being 2, like shiftDown, and on shifts by
// wordBits or more, which leave 0.
func shiftUp(a Vec, by int) Vec {
	low, high := a.words[0], a.words[1]
	if by < wordBits {
		a.words = [wordCount]uint64{low << by, high<<by | low>>(wordBits-by)}
	} else {
		a.words = [wordCount]uint64{0, low << (by - wordBits)}
	}
	return a.trimmed()
}

func shiftDown(a Vec, by int) Vec {
	low, high := a.words[0], a.words[1]
	if by < wordBits {
		a.words = [wordCount]uint64{low>>by | high<<(wordBits-by), high >> by}
	} else {
		a.words = [wordCount]uint64{high >> (by - wordBits), 0}
	}
	return a
}

func less(a, b Vec) bool {
	borrow := uint64(0)
	for i := range wordCount {
		_, borrow = bits.Sub64(a.words[i], b.words[i], borrow)
	}
	return borrow == 1
}

// lessSigned compares signed numbers: if their signs differ, the negative one
// is less; otherwise their order is that of unsigned numbers.
func lessSigned(a, b Vec) bool {
	if isNegative(a) != isNegative(b) {
		return isNegative(a)
	}
	return less(a, b)
}

func isNegative(a Vec) bool { return a.Bit(a.width - 1) }

func isZero(a Vec) bool { return a == Vec{width: a.width} }

func isOdd(a Vec) bool {
	count := 0
	for i := range wordCount {
		count += bits.OnesCount64(a.words[i])
	}
	return count%2 == 1
}

func bitOf(a Vec, i int) uint64 {
	if a.Bit(i) {
		return 1
	}
	return 0
}
