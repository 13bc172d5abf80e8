package lit

import (
	"sluicegate/api"
	"sluicegate/bv"
)

// parts is what a literal consists of: digits alone if it is not based. Width
// and digits still contain underscores.
type parts struct {
	width, digits string
	base          int
	based, signed bool
}

// scan divides s into its parts and returns the first error in reading order.
func scan(s string) (parts, api.Errno) {
	head := digitsAhead(s, 10)
	if head == len(s) {
		if s == "" {
			return parts{}, api.ErrEnd
		}
		return parts{digits: s}, api.OK
	}
	if s[head] != '\'' {
		return parts{}, api.ErrForm
	}
	p := parts{width: s[:head], based: true}
	rest := s[head+1:]
	if rest != "" && (rest[0] == 's' || rest[0] == 'S') {
		p.signed = true
		rest = rest[1:]
	}
	if rest == "" {
		return parts{}, api.ErrEnd
	}
	p.base, p.digits = baseOf(rest[0]), rest[1:]
	if p.base == 0 {
		return parts{}, api.ErrForm
	}
	if p.digits == "" {
		return parts{}, api.ErrEnd
	}
	if digitsAhead(p.digits, p.base) < len(p.digits) {
		return parts{}, api.ErrForm
	}
	return p, api.OK
}

// digitsAhead returns how many bytes at the beginning of s are digits of a
// base, or underscores after the first digit.
func digitsAhead(s string, base int) int {
	for i := range len(s) {
		if digitOf(s[i]) >= base && (i == 0 || s[i] != '_') {
			return i
		}
	}
	return len(s)
}

// noDigit is not less than any base.
const noDigit = 16

// digitOf returns the value of a digit.
func digitOf(c byte) int {
	switch {
	case c >= '0' && c <= '9':
		return int(c - '0')
	case c >= 'a' && c <= 'f':
		return int(c-'a') + 10
	case c >= 'A' && c <= 'F':
		return int(c-'A') + 10
	}
	return noDigit
}

// baseOf returns the base that a letter stands for, or 0.
func baseOf(c byte) int {
	switch c {
	case 'b', 'B':
		return 2
	case 'o', 'O':
		return 8
	case 'd', 'D':
		return 10
	case 'h', 'H':
		return 16
	}
	return 0
}

// capped returns the number in decimal digits, or most if it is greater.
func capped(digits string, most int) int {
	n := 0
	for i := range len(digits) {
		if digits[i] != '_' {
			n = min(n*10+digitOf(digits[i]), most)
		}
	}
	return n
}

// number returns the number in digits of a base, modulo 2 to the power of
// width.
func number(digits string, base, width int) (bv.Vec, api.Errno) {
	val, err := bv.New(width)
	if err != api.OK {
		return bv.Vec{}, err
	}
	for i := range len(digits) {
		if digits[i] != '_' {
			val = withDigit(val, base, digitOf(digits[i]))
		}
	}
	return val, api.OK
}

// withDigit returns the number whose digits are those of val and one more. No
// call in it fails, because all vectors have the valid width of val.
func withDigit(val bv.Vec, base, digit int) bv.Vec {
	factor, _ := bv.New(val.Width(), uint64(base))
	last, _ := bv.New(val.Width(), uint64(digit))
	val, _ = bv.Bin(bv.Mul, val, factor)
	val, _ = bv.Bin(bv.Add, val, last)
	return val
}
