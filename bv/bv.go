// Package bv is layer 1: see shared/doc/01-bv.md.
package bv

import "sluicegate/api"

const (
	wordBits  = 64
	wordCount = api.MaxWidth / wordBits
)

// Vec is a bit vector. The bits of words from width on are always 0, so that
// vectors can be compared with ==.
type Vec struct {
	width int
	words [wordCount]uint64
}

// The operations on two vectors.
const (
	Add = iota
	Sub
	Mul
	Div
	Rem
	Sdiv
	Srem
	And
	Or
	Xor
	Shl
	Shr
	Sar
	Eq
	Ne
	Ult
	Ule
	Slt
	Sle
)

// The operations on one vector.
const (
	Not = iota
	Neg
	RedAnd
	RedOr
	RedXor
	Zero
)

// New returns the vector of the given width with the bits of words, the least
// significant word first.
func New(width int, words ...uint64) (Vec, api.Errno) {
	if !fits(width) {
		return Vec{}, api.ErrWidth
	}
	v := Vec{width: width}
	copy(v.words[:], words)
	return v.trimmed(), api.OK
}

// Of returns the vector of the given bits, the least significant first.
func Of(bits ...bool) (Vec, api.Errno) {
	if !fits(len(bits)) {
		return Vec{}, api.ErrWidth
	}
	v := Vec{width: len(bits)}
	for i, set := range bits {
		if set {
			v.words[i/wordBits] |= 1 << (i % wordBits)
		}
	}
	return v, api.OK
}

// Width returns the number of bits.
func (v Vec) Width() int { return v.width }

// Bit reports whether bit i is set; a bit that does not exist is not.
func (v Vec) Bit(i int) bool {
	if i < 0 || i >= v.width {
		return false
	}
	return v.words[i/wordBits]>>(i%wordBits)&1 == 1
}

// Bits returns all bits, the least significant first.
func (v Vec) Bits() []bool {
	list := make([]bool, v.width)
	for i := range v.width {
		list[i] = v.Bit(i)
	}
	return list
}

// Words returns the bits as New accepts them.
func (v Vec) Words() []uint64 {
	list := make([]uint64, (v.width+wordBits-1)/wordBits)
	copy(list, v.words[:])
	return list
}

// Text returns the bits as digits, the most significant first.
func (v Vec) Text() string {
	digits := make([]byte, v.width)
	for i := range v.width {
		digits[v.width-1-i] = '0'
		if v.Bit(i) {
			digits[v.width-1-i] = '1'
		}
	}
	return string(digits)
}

// Num returns the vector as an unsigned number, or most if it is greater.
func (v Vec) Num(most int) int {
	most = max(most, 0)
	for i := range wordCount - 1 {
		if v.words[i+1] != 0 {
			return most
		}
	}
	return int(min(v.words[0], uint64(most)))
}

// Equal reports whether a and b have the same width and the same bits.
func Equal(a, b Vec) bool { return a == b }

// fits reports whether a vector can have that width.
func fits(width int) bool { return width >= 1 && width <= api.MaxWidth }

// trimmed returns v without the bits from its width on.
func (v Vec) trimmed() Vec {
	for i := range wordCount {
		v.words[i] &= lowBits(v.width - i*wordBits)
	}
	return v
}

// lowBits returns a word whose first n bits are set. A shift by wordBits or
// more leaves 0, so that all bits are set then.
func lowBits(n int) uint64 { return 1<<max(n, 0) - 1 }

// ones returns the vector of the given width with all bits set.
func ones(width int) Vec { return invert(Vec{width: width}) }

// truth returns a vector of one bit.
func truth(is bool) Vec {
	v := Vec{width: 1}
	if is {
		v.words[0] = 1
	}
	return v
}
