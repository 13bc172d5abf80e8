package bv_test

import (
	"testing"

	"sluicegate/api"
	"sluicegate/bv"
)

// whole returns v as an integer; its width is at most 62.
func whole(v bv.Vec) int64 { return int64(v.Num(1 << 62)) }

// twos returns the integer of width bits whose bits are those of n.
func twos(n int64, width int) int64 { return n << (64 - width) >> (64 - width) }

// byInteger returns the result of an operation on integers, for b != 0 if it
// is a division.
func byInteger(op, width int, a, b int64) int64 {
	by := min(b, 63)
	switch op {
	case bv.Add:
		return a + b
	case bv.Sub:
		return a - b
	case bv.Mul:
		return a * b
	case bv.Div:
		return a / b
	case bv.Rem:
		return a % b
	case bv.Sdiv:
		return twos(a, width) / twos(b, width)
	case bv.Srem:
		return twos(a, width) % twos(b, width)
	case bv.And:
		return a & b
	case bv.Or:
		return a | b
	case bv.Xor:
		return a ^ b
	case bv.Shl:
		return a << by
	case bv.Shr:
		return a >> by
	}
	return twos(a, width) >> by // Sar
}

func isSo(op, width int, a, b int64) bool {
	switch op {
	case bv.Eq:
		return a == b
	case bv.Ne:
		return a != b
	case bv.Ult:
		return a < b
	case bv.Ule:
		return a <= b
	case bv.Slt:
		return twos(a, width) < twos(b, width)
	}
	return twos(a, width) <= twos(b, width) // Sle
}

func TestP1_5BinAgreesWithIntegers(t *testing.T) {
	for width := 1; width <= 62; width++ {
		mask := int64(1)<<width - 1
		list := numbers(width)
		for _, x := range list {
			for _, y := range list {
				a, b := x.Int64(), y.Int64()
				left, right := vecOf(t, width, x), vecOf(t, width, y)
				for _, op := range binOps {
					if b == 0 && op >= bv.Div && op <= bv.Srem {
						continue
					}
					want := int64(0)
					if op < bv.Eq {
						want = byInteger(op, width, a, b) & mask
					} else if isSo(op, width, a, b) {
						want = 1
					}
					v, err := bv.Bin(op, left, right)
					if err != api.OK || whole(v) != want {
						t.Errorf("P1.5: width %d, operation %d of %d and %d: %d, error %d; want %d", width, op, a, b, whole(v), err, want)
					}
				}
			}
		}
	}
}

func TestP1_5UnAgreesWithIntegers(t *testing.T) {
	for width := 1; width <= 62; width++ {
		mask := int64(1)<<width - 1
		for _, x := range numbers(width) {
			a := x.Int64()
			for op, want := range map[int]int64{bv.Not: ^a & mask, bv.Neg: -a & mask} {
				v, err := bv.Un(op, vecOf(t, width, x))
				if err != api.OK || whole(v) != want {
					t.Errorf("P1.5: width %d, operation %d of %d: %d, error %d; want %d", width, op, a, whole(v), err, want)
				}
			}
			for op, want := range map[int]bool{bv.RedAnd: a == mask, bv.RedOr: a != 0, bv.Zero: a == 0} {
				v, err := bv.Un(op, vecOf(t, width, x))
				if err != api.OK || v.Width() != 1 || v.Bit(0) != want {
					t.Errorf("P1.5: width %d, operation %d of %d: %s, error %d", width, op, a, v.Text(), err)
				}
			}
		}
	}
}

func TestP1_5PartsAgreeWithIntegers(t *testing.T) {
	for width := 1; width <= 62; width++ {
		for _, x := range numbers(width) {
			a, v := x.Int64(), vecOf(t, width, x)
			low, err := bv.Ext(v, 62, true)
			if err != api.OK || whole(low) != twos(a, width)&(1<<62-1) {
				t.Errorf("P1.5: Ext of %d in %d bits: %d, error %d", a, width, whole(low), err)
			}
			part, err := bv.Slice(v, width/2, width-width/2)
			if err != api.OK || whole(part) != a>>(width/2) {
				t.Errorf("P1.5: Slice of %d in %d bits: %d, error %d", a, width, whole(part), err)
			}
			if width <= 31 {
				both, err := bv.Cat(v, v)
				if err != api.OK || whole(both) != a<<width|a {
					t.Errorf("P1.5: Cat of %d in %d bits: %d, error %d", a, width, whole(both), err)
				}
			}
		}
	}
}
