package lit_test

import (
	"math"
	"testing"

	"sluicegate/api"
	"sluicegate/bv"
	"sluicegate/lit"
)

// literal returns a Lit of the given width and words.
func literal(t *testing.T, signed, sized bool, width int, words ...uint64) lit.Lit {
	t.Helper()
	val, err := bv.New(width, words...)
	if err != api.OK {
		t.Fatalf("New(%d): error %d", width, err)
	}
	return lit.Lit{Val: val, Signed: signed, Sized: sized}
}

func TestP2_2Text(t *testing.T) {
	for _, x := range []struct {
		signed, sized bool
		width         int
		words         []uint64
		want          string
	}{
		{true, false, 32, []uint64{0}, "0"},
		{true, false, 32, []uint64{17}, "17"},
		{true, false, 32, []uint64{1<<31 - 1}, "2147483647"},
		{true, false, 32, []uint64{1 << 31}, "'sh80000000"},
		{true, false, 32, []uint64{math.MaxUint32}, "'shffffffff"},
		{false, false, 32, []uint64{0}, "'h0"},
		{false, false, 32, []uint64{17}, "'h11"},
		{false, false, 32, []uint64{math.MaxUint32}, "'hffffffff"},
		{true, true, 32, []uint64{17}, "32'sh11"},
		{false, true, 32, []uint64{17}, "32'h11"},
		{true, true, 4, []uint64{10}, "4'sha"},
		{false, true, 4, []uint64{10}, "4'ha"},
		{false, true, 1, []uint64{0}, "1'h0"},
		{true, true, 1, []uint64{1}, "1'sh1"},
		{false, true, 12, []uint64{15}, "12'hf"},
		{false, true, 64, []uint64{0xfedcba9876543210}, "64'hfedcba9876543210"},
		{false, true, 65, []uint64{0, 1}, "65'h10000000000000000"},
		{false, true, 65, []uint64{0xab}, "65'hab"},
		{true, true, 68, []uint64{5, 10}, "68'sha0000000000000005"},
		{false, true, 128, []uint64{0, 0}, "128'h0"},
		{false, true, 128, []uint64{math.MaxUint64, math.MaxUint64}, "128'hffffffffffffffffffffffffffffffff"},
		{true, true, 128, []uint64{0xfedcba9876543210, 0x0123456789abcdef}, "128'sh123456789abcdeffedcba9876543210"},
		{true, false, 31, []uint64{5}, ""},
		{true, false, 33, []uint64{5}, ""},
		{false, false, 1, []uint64{1}, ""},
		{false, false, 64, []uint64{1}, ""},
		{false, false, 128, []uint64{1}, ""},
	} {
		l := literal(t, x.signed, x.sized, x.width, x.words...)
		if s := l.Text(); s != x.want {
			t.Errorf("P2.2: Text of %+v: %q, not %q", x, s, x.want)
		}
	}
}

func TestP2_2TextOfWidth0(t *testing.T) {
	for _, signed := range []bool{false, true} {
		for _, sized := range []bool{false, true} {
			if s := (lit.Lit{Signed: signed, Sized: sized}).Text(); s != "" {
				t.Errorf("P2.2: Text of width 0, %v, %v: %q", signed, sized, s)
			}
		}
	}
}

func TestP2_2ParseOfTextIsTheLiteral(t *testing.T) {
	for width := 1; width <= 128; width++ {
		for _, words := range [][]uint64{
			{0}, {1}, {1 << 31}, {1<<31 - 1}, {0xdeadbeefcafe0123, 0x0fedcba987654321},
			{math.MaxUint64, math.MaxUint64}, {0, 1}, {0, 1 << 63}, {0x1000}, {0xa0},
		} {
			for _, signed := range []bool{false, true} {
				mustReturn(t, literal(t, signed, true, width, words...))
				if width == 32 {
					mustReturn(t, literal(t, signed, false, width, words...))
				}
			}
		}
	}
}

func TestP2_2ParseOfTextOfParse(t *testing.T) {
	for _, s := range []string{"0", "17", "1_7", "2147483647", "'h1", "'sh7fffffff", "'sh80000000", "'d0", "8'hfF", "4'sb1_010", "3'd9", "128'd0", "1'sb1"} {
		l, err := lit.Parse(s)
		if err != api.OK {
			t.Errorf("P2.2: Parse(%q): error %d", s, err)
		}
		mustReturn(t, l)
	}
}

// mustReturn fails unless Parse of the Text of l returns l.
func mustReturn(t *testing.T, l lit.Lit) {
	t.Helper()
	s := l.Text()
	again, err := lit.Parse(s)
	if err != api.OK || !bv.Equal(again.Val, l.Val) || again.Signed != l.Signed || again.Sized != l.Sized {
		t.Errorf("P2.2: Parse(%q): %+v, error %d; want %+v", s, again, err, l)
	}
}

func TestP2_3Of(t *testing.T) {
	for n, text := range map[int]string{0: "0", 1: "1", 17: "17", 1<<31 - 1: "2147483647"} {
		l, err := lit.Of(n)
		if err != api.OK || l.Val.Width() != 32 || l.Val.Num(math.MaxInt) != n || !l.Signed || l.Sized || l.Text() != text {
			t.Errorf("P2.3: Of(%d): %+v, error %d", n, l, err)
		}
		if back, err := l.Int(); back != n || err != api.OK {
			t.Errorf("P2.3: Int of Of(%d): %d, error %d", n, back, err)
		}
	}
	for _, n := range []int{-1, -17, math.MinInt32, math.MinInt, 1 << 31, 1<<31 + 1, 1 << 32, 1<<32 + 5, math.MaxInt} {
		l, err := lit.Of(n)
		if err != api.ErrRange || l.Signed || l.Sized || !bv.Equal(l.Val, bv.Vec{}) {
			t.Errorf("P2.3: Of(%d): %+v, error %d", n, l, err)
		}
	}
}

func TestP2_3Int(t *testing.T) {
	const all = math.MaxUint64
	for _, x := range []struct {
		signed bool
		width  int
		words  []uint64
		want   int
	}{
		{true, 4, []uint64{8}, -8},
		{false, 4, []uint64{8}, 8},
		{true, 4, []uint64{7}, 7},
		{true, 4, []uint64{15}, -1},
		{true, 1, []uint64{1}, -1},
		{false, 1, []uint64{1}, 1},
		{true, 1, []uint64{0}, 0},
		{true, 31, []uint64{1 << 30}, -1 << 30},
		{true, 32, []uint64{1<<31 - 1}, 1<<31 - 1},
		{true, 32, []uint64{1 << 31}, -1 << 31},
		{true, 32, []uint64{1<<31 + 1}, -1<<31 + 1},
		{false, 32, []uint64{1<<31 - 1}, 1<<31 - 1},
		{true, 33, []uint64{1<<33 - 1<<31}, -1 << 31},
		{true, 33, []uint64{1<<31 - 1}, 1<<31 - 1},
		{true, 64, []uint64{all}, -1},
		{true, 64, []uint64{all - (1<<31 - 1)}, -1 << 31},
		{true, 65, []uint64{all, 1}, -1},
		{true, 128, []uint64{all, all}, -1},
		{true, 128, []uint64{all - 99, all}, -100},
		{true, 128, []uint64{all - (1<<31 - 1), all}, -1 << 31},
		{false, 128, []uint64{1<<31 - 1}, 1<<31 - 1},
		{true, 128, []uint64{0}, 0},
	} {
		for _, sized := range []bool{false, true} {
			n, err := literal(t, x.signed, sized, x.width, x.words...).Int()
			if n != x.want || err != api.OK {
				t.Errorf("P2.3: Int of %+v: %d, error %d", x, n, err)
			}
		}
	}
}

func TestP2_3IntOfEveryWidth(t *testing.T) {
	for width := 1; width <= 128; width++ {
		minus1 := literal(t, true, true, width, math.MaxUint64, math.MaxUint64)
		if n, err := minus1.Int(); n != -1 || err != api.OK {
			t.Errorf("P2.3: Int of -1 in %d bits: %d, error %d", width, n, err)
		}
		minus1.Signed = false
		n, err := minus1.Int()
		if width <= 31 && (n != 1<<width-1 || err != api.OK) || width > 31 && (n != 0 || err != api.ErrRange) {
			t.Errorf("P2.3: Int of %d unsigned ones: %d, error %d", width, n, err)
		}
	}
}

func TestP2_3IntErrors(t *testing.T) {
	const all = math.MaxUint64
	for _, x := range []struct {
		signed bool
		width  int
		words  []uint64
	}{
		{false, 32, []uint64{1 << 31}},
		{false, 32, []uint64{math.MaxUint32}},
		{false, 33, []uint64{1 << 32}},
		{true, 33, []uint64{1 << 31}},
		{true, 33, []uint64{1 << 32}},
		{true, 33, []uint64{1<<33 - 1<<31 - 1}},
		{false, 64, []uint64{all}},
		{true, 64, []uint64{1 << 63}},
		{true, 64, []uint64{all - 1<<31}},
		{true, 65, []uint64{0, 1}},
		{false, 65, []uint64{5, 1}},
		{true, 128, []uint64{0, 1 << 63}},
		{true, 128, []uint64{5, 1}},
		{true, 128, []uint64{all, all - 1}},
		{true, 128, []uint64{all - 1<<31, all}},
		{false, 128, []uint64{all, all}},
	} {
		if n, err := literal(t, x.signed, true, x.width, x.words...).Int(); n != 0 || err != api.ErrRange {
			t.Errorf("P2.3: Int of %+v: %d, error %d", x, n, err)
		}
	}
	for _, l := range []lit.Lit{{}, {Signed: true}, {Sized: true}, {Signed: true, Sized: true}} {
		if n, err := l.Int(); n != 0 || err != api.ErrWidth {
			t.Errorf("P2.3: Int of width 0: %d, error %d", n, err)
		}
	}
}
