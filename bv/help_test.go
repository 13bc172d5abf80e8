package bv_test

import (
	"math/big"
	"slices"
	"testing"

	"sluicegate/api"
	"sluicegate/bv"
)

// edgeWidths are the widths at which words begin and end, and small ones.
var edgeWidths = []int{1, 2, 3, 7, 31, 32, 33, 62, 63, 64, 65, 66, 127, 128}

// vec returns the vector with the given digits.
func vec(t *testing.T, digits string) bv.Vec {
	t.Helper()
	if digits == "" {
		return bv.Vec{}
	}
	var list []bool
	for i := len(digits) - 1; i >= 0; i-- {
		list = append(list, digits[i] == '1')
	}
	v, err := bv.Of(list...)
	if err != api.OK {
		t.Fatalf("Of %s: error %d", digits, err)
	}
	return v
}

// vecOf returns the vector of a number modulo 2 to the power of width.
func vecOf(t *testing.T, width int, n *big.Int) bv.Vec {
	t.Helper()
	n = modulo(n, width)
	low := new(big.Int).And(n, new(big.Int).SetUint64(1<<64-1)).Uint64()
	high := new(big.Int).Rsh(n, 64).Uint64()
	v, err := bv.New(width, low, high)
	if err != api.OK {
		t.Fatalf("New(%d): error %d", width, err)
	}
	return v
}

// unsigned returns the number that the digits of v stand for.
func unsigned(v bv.Vec) *big.Int {
	n, _ := new(big.Int).SetString("0"+v.Text(), 2)
	return n
}

// signed returns the number of v in two's complement.
func signed(v bv.Vec) *big.Int {
	n := unsigned(v)
	if v.Width() > 0 && v.Text()[0] == '1' {
		n.Sub(n, power(v.Width()))
	}
	return n
}

func power(n int) *big.Int { return new(big.Int).Lsh(big.NewInt(1), uint(n)) }

// modulo returns n modulo 2 to the power of width, never negative.
func modulo(n *big.Int, width int) *big.Int { return new(big.Int).Mod(n, power(width)) }

// numbers returns edge cases of a width and some mixed numbers.
func numbers(width int) []*big.Int {
	var list []*big.Int
	for _, n := range []int64{0, 1, 2, 3, -1, -2, -3, 10, 64, 65, 128, 1 << 40} {
		list = append(list, big.NewInt(n))
	}
	half := power(width - 1)
	list = append(list, half, new(big.Int).Sub(half, big.NewInt(1)), new(big.Int).Add(half, big.NewInt(1)))
	for _, n := range []int{width - 1, width, width + 1, width / 2} {
		list = append(list, big.NewInt(int64(n)), power(n), new(big.Int).Neg(power(n/2)))
	}
	seed := uint64(width)
	for i := range 8 {
		n := new(big.Int).SetUint64(mixed(&seed))
		n.Lsh(n, 64).Add(n, new(big.Int).SetUint64(mixed(&seed)))
		list = append(list, n.Rsh(n, uint(i*width/8)))
	}
	for i, n := range list {
		list[i] = modulo(n, width)
	}
	return list
}

// mixed returns the next number of a fixed sequence.
func mixed(seed *uint64) uint64 {
	*seed += 0x9e3779b97f4a7c15
	x := *seed
	x = (x ^ x>>30) * 0xbf58476d1ce4e5b9
	x = (x ^ x>>27) * 0x94d049bb133111eb
	return x ^ x>>31
}

// mustBe fails unless v has the given digits, also for Equal and for Words,
// and there is no error.
func mustBe(t *testing.T, what string, v bv.Vec, err api.Errno, digits string) {
	t.Helper()
	want := vec(t, digits)
	same := bv.Equal(v, want) && slices.Equal(v.Words(), want.Words())
	if err != api.OK || v.Text() != digits || v.Width() != len(digits) || !same {
		t.Errorf("%s: %q, error %d; want %q", what, v.Text(), err, digits)
	}
}

// mustFail fails unless there is that error, and the zero vector with it.
func mustFail(t *testing.T, what string, v bv.Vec, err, want api.Errno) {
	t.Helper()
	if err != want || v.Width() != 0 || !bv.Equal(v, bv.Vec{}) {
		t.Errorf("%s: %q, error %d; want error %d", what, v.Text(), err, want)
	}
}

// mustKeep fails unless v still has the given digits.
func mustKeep(t *testing.T, v bv.Vec, digits string) {
	t.Helper()
	if v.Text() != digits {
		t.Errorf("a vector has changed from %q to %q", digits, v.Text())
	}
}
