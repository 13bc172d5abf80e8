package bv_test

import (
	"math"
	"slices"
	"strings"
	"testing"

	"sluicegate/api"
	"sluicegate/bv"
)

// pattern returns digits without a short period.
func pattern(width int) string {
	seed := uint64(width)
	digits := ""
	for range width {
		digits += digit(mixed(&seed)%2 == 1)
	}
	return digits
}

func TestP1_4Slice(t *testing.T) {
	for _, width := range edgeWidths {
		for _, digits := range []string{pattern(width), strings.Repeat("1", width)} {
			a := vec(t, digits)
			for lo := range width {
				for size := 1; size <= width-lo; size++ {
					v, err := bv.Slice(a, lo, size)
					mustBe(t, "Slice", v, err, digits[width-lo-size:width-lo])
				}
			}
			mustKeep(t, a, digits)
		}
	}
}

func TestP1_4SliceErrors(t *testing.T) {
	for _, x := range []struct {
		a         string
		lo, width int
	}{
		{"1010", -1, 1},
		{"1010", -1, 4},
		{"1010", math.MinInt, 1},
		{"1010", 0, 0},
		{"1010", 0, -1},
		{"1010", 4, -1},
		{"1010", 0, math.MinInt},
		{"1010", 0, 5},
		{"1010", 1, 4},
		{"1010", 4, 1},
		{"1010", 4, 0},
		{"1010", math.MaxInt, 1},
		{"1010", 1, math.MaxInt},
		{"1010", math.MaxInt, math.MaxInt},
		{"", 0, 0},
		{"", 0, 1},
		{strings.Repeat("1", 128), 0, 129},
		{strings.Repeat("1", 128), 128, 1},
	} {
		v, err := bv.Slice(vec(t, x.a), x.lo, x.width)
		mustFail(t, "Slice of "+x.a, v, err, api.ErrRange)
	}
}

func TestP1_4Put(t *testing.T) {
	for _, width := range edgeWidths {
		for size := 1; size <= width; size++ {
			digits, part := pattern(width), pattern(size)
			inverse := strings.Map(func(c rune) rune { return '0' + '1' - c }, digits)
			a, b := vec(t, digits), vec(t, part)
			c := vec(t, inverse)
			for lo := range width - size + 1 {
				v, err := bv.Put(a, lo, b)
				mustBe(t, "Put", v, err, digits[:width-lo-size]+part+digits[width-lo:])
				v, err = bv.Put(c, lo, b)
				mustBe(t, "Put", v, err, inverse[:width-lo-size]+part+inverse[width-lo:])
			}
			mustKeep(t, a, digits)
			mustKeep(t, b, part)
		}
	}
}

func TestP1_4PutErrors(t *testing.T) {
	for _, x := range []struct {
		a  string
		lo int
		b  string
	}{
		{"1010", -1, "1"},
		{"1010", math.MinInt, "1"},
		{"1010", 0, ""},
		{"1010", 2, ""},
		{"1010", -1, ""},
		{"1010", 0, "11111"},
		{"1010", 1, "1111"},
		{"1010", 4, "1"},
		{"1010", math.MaxInt, "1"},
		{"", 0, ""},
		{"", 0, "1"},
		{strings.Repeat("1", 128), 1, strings.Repeat("1", 128)},
		{strings.Repeat("1", 128), 128, "1"},
	} {
		v, err := bv.Put(vec(t, x.a), x.lo, vec(t, x.b))
		mustFail(t, "Put", v, err, api.ErrRange)
	}
}

func TestP1_4Cat(t *testing.T) {
	for _, sizes := range [][]int{
		{1}, {64}, {65}, {128}, {1, 1}, {2, 3}, {3, 2}, {1, 2, 3, 4},
		{1, 63}, {63, 1}, {64, 64}, {1, 64}, {64, 1}, {1, 127}, {127, 1}, {60, 8, 60}, {40, 40, 40, 8},
	} {
		var list []bv.Vec
		want := ""
		for i, size := range sizes {
			digits := pattern(size + i)[:size]
			list = append(list, vec(t, digits))
			want += digits
		}
		before := slices.Clone(list)
		v, err := bv.Cat(list...)
		mustBe(t, "Cat", v, err, want)
		if !slices.EqualFunc(before, list, bv.Equal) {
			t.Errorf("Cat of %v changed its list", sizes)
		}
	}
	var bits []bv.Vec
	for i := range 128 {
		bits = append(bits, vec(t, pattern(128)[i:i+1]))
	}
	v, err := bv.Cat(bits...)
	mustBe(t, "Cat of bits", v, err, pattern(128))
}

func TestP1_4CatErrors(t *testing.T) {
	one, wide := vec(t, "1"), vec(t, strings.Repeat("1", 128))
	half, more := vec(t, strings.Repeat("1", 64)), vec(t, strings.Repeat("1", 65))
	many := slices.Repeat([]bv.Vec{wide}, 1000)
	for i, list := range [][]bv.Vec{
		nil, {}, {{}}, {one, {}}, {{}, one}, {one, {}, one}, {{}, wide}, {wide, {}},
		{wide, one}, {one, wide}, {half, more}, {more, half}, {half, half, one}, {{}, wide, one}, {one, wide, {}}, many,
	} {
		v, err := bv.Cat(list...)
		if err != api.ErrWidth || !bv.Equal(v, bv.Vec{}) {
			t.Errorf("Cat of list %d: %s, error %d", i, v.Text(), err)
		}
	}
}

func TestP1_4Ext(t *testing.T) {
	for _, width := range edgeWidths {
		for _, lead := range []string{"0", "1"} {
			digits := lead + pattern(width)[1:]
			a := vec(t, digits)
			for size := 1; size <= 128; size++ {
				plain, signed := digits[max(width-size, 0):], digits[max(width-size, 0):]
				if size > width {
					plain = strings.Repeat("0", size-width) + digits
					signed = strings.Repeat(lead, size-width) + digits
				}
				v, err := bv.Ext(a, size, false)
				mustBe(t, "Ext", v, err, plain)
				v, err = bv.Ext(a, size, true)
				mustBe(t, "Ext, signed", v, err, signed)
			}
			mustKeep(t, a, digits)
		}
	}
}

func TestP1_4ExtErrors(t *testing.T) {
	for _, signed := range []bool{false, true} {
		for _, width := range []int{0, -1, 129, 1000, math.MinInt, math.MaxInt} {
			v, err := bv.Ext(vec(t, "101"), width, signed)
			mustFail(t, "Ext", v, err, api.ErrWidth)
			v, err = bv.Ext(bv.Vec{}, width, signed)
			mustFail(t, "Ext", v, err, api.ErrWidth)
		}
		v, err := bv.Ext(bv.Vec{}, 4, signed)
		mustFail(t, "Ext of nothing", v, err, api.ErrWidth)
	}
}
