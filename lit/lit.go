// Package lit is layer 2: see shared/doc/02-lit.md.
package lit

import (
	"slices"
	"strconv"
	"strings"

	"sluicegate/api"
	"sluicegate/bv"
)

const (
	plainWidth = 32
	plainLimit = 1 << (plainWidth - 1) // plain literals are less than that
)

// Lit is a number: its bits, whether it is signed, and whether its width is
// written.
type Lit struct {
	Val           bv.Vec
	Signed, Sized bool
}

// Parse returns the number that a literal stands for.
func Parse(s string) (Lit, api.Errno) {
	p, err := scan(s)
	if err != api.OK {
		return Lit{}, err
	}
	if !p.based {
		return Of(capped(p.digits, plainLimit))
	}
	width := plainWidth
	if p.width != "" {
		width = capped(p.width, api.MaxWidth+1)
	}
	val, err := number(p.digits, p.base, width)
	if err != api.OK {
		return Lit{}, err
	}
	return Lit{Val: val, Signed: p.signed, Sized: p.width != ""}, api.OK
}

// Text returns a literal from which Parse produces l, or nothing if there is
// none.
func (l Lit) Text() string {
	width := l.Val.Width()
	if width == 0 || !l.Sized && width != plainWidth {
		return ""
	}
	if l.Signed && !l.Sized && !l.Val.Bit(plainWidth-1) {
		return strconv.Itoa(l.Val.Num(plainLimit))
	}
	head := "'"
	if l.Sized {
		head = strconv.Itoa(width) + "'"
	}
	if l.Signed {
		head += "s"
	}
	return head + "h" + hexadecimal(l.Val.Words())
}

// Of returns the plain literal n.
func Of(n int) (Lit, api.Errno) {
	if n < 0 || n >= plainLimit {
		return Lit{}, api.ErrRange
	}
	val, _ := bv.New(plainWidth, uint64(n)) // plainWidth is a valid width
	return Lit{Val: val, Signed: true}, api.OK
}

// Int returns the value of l.
func (l Lit) Int() (int, api.Errno) {
	width := l.Val.Width()
	if width == 0 {
		return 0, api.ErrWidth
	}
	if l.Signed && l.Val.Bit(width-1) {
		return negative(l.Val)
	}
	n := l.Val.Num(plainLimit)
	if n == plainLimit {
		return 0, api.ErrRange
	}
	return n, api.OK
}

// negative returns the value of a vector, not an empty one, that stands for a
// negative number: -1 minus the number whose bits are inverted.
func negative(v bv.Vec) (int, api.Errno) {
	inverse, _ := bv.Un(bv.Not, v)
	n := inverse.Num(plainLimit)
	if n == plainLimit {
		return 0, api.ErrRange
	}
	return -1 - n, api.OK
}

// hexadecimal returns the number in words, the least significant one first,
// without leading zeros.
func hexadecimal(words []uint64) string {
	const digitsOfWord = 16
	text := ""
	for _, w := range slices.Backward(words) {
		digits := strconv.FormatUint(w, 16)
		text += strings.Repeat("0", digitsOfWord-len(digits)) + digits
	}
	text = strings.TrimLeft(text, "0")
	if text == "" {
		return "0"
	}
	return text
}
