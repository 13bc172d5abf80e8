package bv_test

import (
	"math"
	"math/big"
	"strings"
	"testing"

	"sluicegate/api"
	"sluicegate/bv"
)

// binOps are the binary operations in the order of their numbers.
var binOps = []int{bv.Add, bv.Sub, bv.Mul, bv.Div, bv.Rem, bv.Sdiv, bv.Srem, bv.And, bv.Or, bv.Xor, bv.Shl, bv.Shr, bv.Sar, bv.Eq, bv.Ne, bv.Ult, bv.Ule, bv.Slt, bv.Sle}

// unOps are the unary operations in the order of their numbers.
var unOps = []int{bv.Not, bv.Neg, bv.RedAnd, bv.RedOr, bv.RedXor, bv.Zero}

func TestP1_2AndP1_3OperationsAreNumberedFrom0(t *testing.T) {
	for i, op := range binOps {
		if op != i {
			t.Errorf("P1.2: the binary operation %d has the number %d", i, op)
		}
	}
	for i, op := range unOps {
		if op != i {
			t.Errorf("P1.3: the unary operation %d has the number %d", i, op)
		}
	}
	if len(binOps) != 19 || len(unOps) != 6 {
		t.Errorf("P1.2, P1.3: %d and %d operations", len(binOps), len(unOps))
	}
}

func TestP1_2Examples(t *testing.T) {
	for _, x := range []struct {
		op         int
		a, b, want string
	}{
		{bv.Add, "1001", "1000", "0001"},
		{bv.Add, "1", "1", "0"},
		{bv.Sub, "0000", "0001", "1111"},
		{bv.Mul, "1111", "1111", "0001"},
		{bv.Div, "1111", "0100", "0011"},
		{bv.Rem, "1111", "0100", "0011"},
		{bv.Div, "1001", "0000", "1111"},
		{bv.Rem, "1001", "0000", "1001"},
		{bv.Sdiv, "1001", "0011", "1110"}, // -7 / 3 = -2
		{bv.Srem, "1001", "0011", "1111"}, // -7 - -2 * 3 = -1
		{bv.Sdiv, "0111", "1101", "1110"}, // 7 / -3 = -2
		{bv.Srem, "0111", "1101", "0001"}, // 7 - -2 * -3 = 1
		{bv.Sdiv, "1001", "1101", "0010"}, // -7 / -3 = 2
		{bv.Srem, "1001", "1101", "1111"}, // -7 - 2 * -3 = -1
		{bv.Sdiv, "1000", "1111", "1000"}, // 8 is -8 modulo 16
		{bv.Srem, "1000", "1111", "0000"},
		{bv.Sdiv, "1", "1", "1"},
		{bv.Srem, "1", "1", "0"},
		{bv.Sdiv, "1001", "0000", "1111"},
		{bv.Srem, "1001", "0000", "1001"},
		{bv.Sdiv, "0111", "0000", "1111"},
		{bv.Srem, "0111", "0000", "0111"},
		{bv.Shl, "1011", "0001", "0110"},
		{bv.Shl, "1011", "0100", "0000"},
		{bv.Shl, "1011", "1111", "0000"},
		{bv.Shr, "1011", "0001", "0101"},
		{bv.Shr, "1011", "0100", "0000"},
		{bv.Shr, "1011", "1111", "0000"},
		{bv.Sar, "1001", "0001", "1100"},
		{bv.Sar, "1001", "0011", "1111"},
		{bv.Sar, "1001", "0100", "1111"},
		{bv.Sar, "0110", "0001", "0011"},
		{bv.Sar, "0110", "0100", "0000"},
		{bv.Sar, "0110", "1000", "0000"},
		{bv.Sar, "1", "1", "1"},
		{bv.Slt, "1000", "0111", "1"},
		{bv.Ult, "1000", "0111", "0"},
		{bv.Slt, "1", "0", "1"},
		{bv.Ult, "1", "0", "0"},
	} {
		v, err := bv.Bin(x.op, vec(t, x.a), vec(t, x.b))
		mustBe(t, "P1.2: "+x.a+" "+x.b, v, err, x.want)
	}
}

func TestP1_2Wide(t *testing.T) {
	top := "1" + strings.Repeat("0", 127)
	all := strings.Repeat("1", 128)
	none := strings.Repeat("0", 128)
	one := strings.Repeat("0", 127) + "1"
	for _, x := range []struct {
		op         int
		a, b, want string
	}{
		{bv.Add, all, one, none},
		{bv.Sub, none, one, all},
		{bv.Mul, all, all, one},
		{bv.Mul, top, one, top},
		{bv.Div, all, top, one},
		{bv.Rem, all, top, "0" + all[1:]},
		{bv.Div, all, none, all},
		{bv.Rem, top, none, top},
		{bv.Div, all, one, all},
		{bv.Rem, all, all, none},
		{bv.Sdiv, top, all, top},
		{bv.Srem, top, all, none},
		{bv.Sdiv, top, none, all},
		{bv.Srem, top, none, top},
		{bv.Shl, one, top, none},
		{bv.Shr, top, top, none},
		{bv.Sar, top, top, all},
		{bv.Sar, "0" + all[1:], all, none},
		{bv.Slt, top, one, "1"},
		{bv.Sle, one, top, "0"},
	} {
		v, err := bv.Bin(x.op, vec(t, x.a), vec(t, x.b))
		mustBe(t, "P1.2: "+x.a+" "+x.b, v, err, x.want)
	}
}

func TestP1_2EveryPairOfSmallVectors(t *testing.T) {
	for width := 1; width <= 4; width++ {
		for x := range int64(1) << width {
			for y := range int64(1) << width {
				checkBin(t, width, big.NewInt(x), big.NewInt(y))
			}
		}
	}
}

func TestP1_2EveryWidth(t *testing.T) {
	for width := 1; width <= 128; width++ {
		list := numbers(width)
		for i, x := range list {
			checkBin(t, width, x, x)
			checkBin(t, width, x, list[(i+5)%len(list)])
		}
	}
	for _, width := range edgeWidths {
		list := numbers(width)
		for _, x := range list {
			for _, y := range list {
				checkBin(t, width, x, y)
			}
		}
	}
}

func TestP1_2ShiftsByEveryAmount(t *testing.T) {
	for _, width := range edgeWidths {
		x := new(big.Int).Sub(power(width), big.NewInt(int64(width)+2))
		for by := range width + 3 {
			if big.NewInt(int64(by)).Cmp(power(width)) < 0 {
				checkBin(t, width, modulo(x, width), big.NewInt(int64(by)))
			}
		}
	}
}

// checkBin compares all binary operations on x and y with those of big.Int.
func checkBin(t *testing.T, width int, x, y *big.Int) {
	t.Helper()
	a, b := vecOf(t, width, x), vecOf(t, width, y)
	before := a.Text() + b.Text()
	for _, op := range binOps {
		v, err := bv.Bin(op, a, b)
		if err != api.OK {
			t.Fatalf("P1.2: operation %d of width %d: error %d", op, width, err)
		}
		want, size := new(big.Int), width
		if op >= bv.Eq {
			size = 1
			if comparisonHolds(op, a, b) {
				want.SetInt64(1)
			}
		} else {
			want = modulo(binResult(op, width, a, b), width)
		}
		if v.Width() != size || unsigned(v).Cmp(want) != 0 || !bv.Equal(v, vecOf(t, size, want)) {
			t.Errorf("P1.2: operation %d of %s and %s: %s, not %s in %d bits", op, a.Text(), b.Text(), v.Text(), want.Text(2), size)
		}
	}
	if a.Text()+b.Text() != before {
		t.Errorf("P1.2: Bin changed its arguments")
	}
}

func binResult(op, width int, a, b bv.Vec) *big.Int {
	x, y, r := unsigned(a), unsigned(b), new(big.Int)
	by := uint(width)
	if y.Cmp(big.NewInt(int64(width))) < 0 {
		by = uint(y.Int64())
	}
	if y.Sign() == 0 && op >= bv.Div && op <= bv.Srem {
		if op == bv.Div || op == bv.Sdiv {
			return big.NewInt(-1)
		}
		return x
	}
	switch op {
	case bv.Add:
		r.Add(x, y)
	case bv.Sub:
		r.Sub(x, y)
	case bv.Mul:
		r.Mul(x, y)
	case bv.Div:
		r.Quo(x, y)
	case bv.Rem:
		r.Rem(x, y)
	case bv.Sdiv:
		r.Quo(signed(a), signed(b))
	case bv.Srem:
		r.Rem(signed(a), signed(b))
	case bv.And:
		r.And(x, y)
	case bv.Or:
		r.Or(x, y)
	case bv.Xor:
		r.Xor(x, y)
	case bv.Shl:
		r.Lsh(x, by)
	case bv.Shr:
		r.Rsh(x, by)
	case bv.Sar:
		r.Rsh(signed(a), by)
	}
	return r
}

func comparisonHolds(op int, a, b bv.Vec) bool {
	plain, twos := unsigned(a).Cmp(unsigned(b)), signed(a).Cmp(signed(b))
	switch op {
	case bv.Eq:
		return plain == 0
	case bv.Ne:
		return plain != 0
	case bv.Ult:
		return plain < 0
	case bv.Ule:
		return plain <= 0
	case bv.Slt:
		return twos < 0
	}
	return twos <= 0
}

func TestP1_2Errors(t *testing.T) {
	one, two, wide := vec(t, "1"), vec(t, "10"), vec(t, strings.Repeat("1", 128))
	for _, op := range []int{-1, 19, 20, 64, -64, math.MinInt, math.MaxInt} {
		for _, pair := range [][2]bv.Vec{{two, two}, {one, two}, {{}, {}}} {
			v, err := bv.Bin(op, pair[0], pair[1])
			mustFail(t, "P1.2: no operation", v, err, api.ErrInval)
		}
	}
	for _, op := range binOps {
		for _, pair := range [][2]bv.Vec{{one, two}, {two, one}, {{}, {}}, {one, {}}, {{}, one}, {two, wide}} {
			v, err := bv.Bin(op, pair[0], pair[1])
			mustFail(t, "P1.2: widths", v, err, api.ErrWidth)
		}
	}
}

func TestP1_3Examples(t *testing.T) {
	for _, x := range []struct {
		a, not, neg, redAnd, redOr, redXor, zero string
	}{
		{"0", "1", "0", "0", "0", "0", "1"},
		{"1", "0", "1", "1", "1", "1", "0"},
		{"000", "111", "000", "0", "0", "0", "1"},
		{"111", "000", "001", "1", "1", "1", "0"},
		{"1000", "0111", "1000", "0", "1", "1", "0"},
		{"1010", "0101", "0110", "0", "1", "0", "0"},
		{"0111", "1000", "1001", "0", "1", "1", "0"},
		{"1111", "0000", "0001", "1", "1", "0", "0"},
	} {
		for op, want := range []string{x.not, x.neg, x.redAnd, x.redOr, x.redXor, x.zero} {
			v, err := bv.Un(op, vec(t, x.a))
			mustBe(t, "P1.3: "+x.a, v, err, want)
		}
	}
}

func TestP1_3EveryWidth(t *testing.T) {
	for width := 1; width <= 128; width++ {
		for _, x := range append(numbers(width), modulo(big.NewInt(-1), width)) {
			checkUn(t, width, x)
		}
		for i := range width {
			checkUn(t, width, power(i))
			checkUn(t, width, modulo(new(big.Int).Not(power(i)), width))
		}
	}
	for width := 1; width <= 6; width++ {
		for x := range int64(1) << width {
			checkUn(t, width, big.NewInt(x))
		}
	}
}

func checkUn(t *testing.T, width int, x *big.Int) {
	t.Helper()
	a := vecOf(t, width, x)
	digits := a.Text()
	count := strings.Count(digits, "1")
	zeros := strings.Map(func(c rune) rune { return '0' + '1' - c }, digits)
	for op, want := range []string{
		zeros,
		vecOf(t, width, new(big.Int).Neg(x)).Text(),
		digit(count == width),
		digit(count > 0),
		digit(count%2 == 1),
		digit(count == 0),
	} {
		v, err := bv.Un(op, a)
		mustBe(t, "P1.3: "+digits, v, err, want)
	}
	mustKeep(t, a, digits)
}

func digit(is bool) string {
	if is {
		return "1"
	}
	return "0"
}

func TestP1_3Errors(t *testing.T) {
	for _, op := range []int{-1, 6, 7, 19, math.MinInt, math.MaxInt} {
		for _, a := range []bv.Vec{vec(t, "10"), {}} {
			v, err := bv.Un(op, a)
			mustFail(t, "P1.3: no operation", v, err, api.ErrInval)
		}
	}
	for _, op := range unOps {
		v, err := bv.Un(op, bv.Vec{})
		mustFail(t, "P1.3: width 0", v, err, api.ErrWidth)
	}
}
