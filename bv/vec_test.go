package bv_test

import (
	"math"
	"slices"
	"strings"
	"testing"

	"sluicegate/api"
	"sluicegate/bv"
)

func TestP1_1NewTakesBitsOfWords(t *testing.T) {
	for _, x := range []struct {
		width int
		words []uint64
		want  string
	}{
		{4, []uint64{9}, "1001"},
		{1, []uint64{1}, "1"},
		{1, []uint64{2}, "0"},
		{3, nil, "000"},
		{3, []uint64{math.MaxUint64, 5, 7}, "111"},
		{64, []uint64{1<<63 | 1, 1}, "1" + strings.Repeat("0", 62) + "1"},
		{65, []uint64{1, 1}, "1" + strings.Repeat("0", 63) + "1"},
		{65, []uint64{1, 2}, strings.Repeat("0", 64) + "1"},
		{65, []uint64{math.MaxUint64}, "0" + strings.Repeat("1", 64)},
		{128, []uint64{2, 1 << 63}, "1" + strings.Repeat("0", 125) + "10"},
		{128, []uint64{0, 0, 1}, strings.Repeat("0", 128)},
		{128, []uint64{5}, strings.Repeat("0", 125) + "101"},
	} {
		v, err := bv.New(x.width, x.words...)
		mustBe(t, "New", v, err, x.want)
	}
}

func TestP1_1NewOfEveryWidth(t *testing.T) {
	for width := 1; width <= 128; width++ {
		v, err := bv.New(width, math.MaxUint64, math.MaxUint64, math.MaxUint64)
		mustBe(t, "New", v, err, strings.Repeat("1", width))
		v, err = bv.New(width)
		mustBe(t, "New", v, err, strings.Repeat("0", width))
	}
	for _, width := range []int{0, -1, -64, 129, 192, math.MinInt, math.MaxInt} {
		v, err := bv.New(width, 1, 2)
		mustFail(t, "New", v, err, api.ErrWidth)
		v, err = bv.New(width)
		mustFail(t, "New", v, err, api.ErrWidth)
	}
}

func TestP1_1NewIgnoresBitsBeyondTheWidth(t *testing.T) {
	for _, width := range edgeWidths {
		clean, _ := bv.New(width, 1)
		extra, _ := bv.New(width, 1)
		if width < 64 {
			extra, _ = bv.New(width, 1|1<<width, 7)
		} else if width < 128 {
			extra, _ = bv.New(width, 1, 1<<(width-64), 7)
		}
		if !bv.Equal(clean, extra) || !slices.Equal(clean.Words(), extra.Words()) {
			t.Errorf("width %d: %v and %v", width, clean.Words(), extra.Words())
		}
		if bit, err := bv.Un(bv.RedXor, extra); err != api.OK || bit.Text() != "1" {
			t.Errorf("width %d: bits beyond the width count", width)
		}
	}
}

func TestP1_1OfTakesBits(t *testing.T) {
	v, err := bv.Of(true, false, false, true, false)
	mustBe(t, "Of", v, err, "01001")
	for n := 1; n <= 128; n++ {
		list := make([]bool, n)
		list[n-1] = true
		v, err := bv.Of(list...)
		mustBe(t, "Of", v, err, "1"+strings.Repeat("0", n-1))
		if !slices.Equal(v.Bits(), list) {
			t.Errorf("Bits of %d: %v", n, v.Bits())
		}
	}
	v, err = bv.Of()
	mustFail(t, "Of nothing", v, err, api.ErrWidth)
	v, err = bv.Of(make([]bool, 129)...)
	mustFail(t, "Of 129", v, err, api.ErrWidth)
	v, err = bv.Of(make([]bool, 1000)...)
	mustFail(t, "Of 1000", v, err, api.ErrWidth)
}

func TestP1_1ArgumentsAreNotKeptOrChanged(t *testing.T) {
	words := []uint64{math.MaxUint64, math.MaxUint64, 77}
	v, _ := bv.New(70, words[:2]...)
	if !slices.Equal(words, []uint64{math.MaxUint64, math.MaxUint64, 77}) {
		t.Errorf("New changed its words to %v", words)
	}
	words[0], words[1] = 0, 0
	mustKeep(t, v, strings.Repeat("1", 70))
	list := []bool{true, true, false}
	v, _ = bv.Of(list...)
	list[0] = false
	mustKeep(t, v, "011")
}

func TestP1_1ResultsAreNewMemory(t *testing.T) {
	v, _ := bv.New(128, 3, 1<<63)
	words, bits := v.Words(), v.Bits()
	words[0], words[1], bits[0], bits[127] = 0, 0, false, false
	mustKeep(t, v, "1"+strings.Repeat("0", 125)+"11")
	if !slices.Equal(v.Words(), []uint64{3, 1 << 63}) {
		t.Errorf("Words has become %v", v.Words())
	}
	if b := v.Bits(); !b[0] || !b[127] {
		t.Errorf("Bits has become %v", b)
	}
}

func TestP1_1Bit(t *testing.T) {
	for _, width := range edgeWidths {
		v, _ := bv.New(width, math.MaxUint64, math.MaxUint64)
		for i := range width {
			if !v.Bit(i) {
				t.Errorf("width %d: bit %d is not set", width, i)
			}
		}
		for _, i := range []int{-1, -64, width, width + 1, 128, 129, 1000, math.MinInt, math.MaxInt} {
			if v.Bit(i) {
				t.Errorf("width %d: bit %d is set", width, i)
			}
		}
	}
	v := vec(t, "0100000000000000000000000000000000000000000000000000000000000000000010")
	for i := range 70 {
		if v.Bit(i) != (i == 1 || i == 68) {
			t.Errorf("bit %d is %v", i, v.Bit(i))
		}
	}
}

func TestP1_1BitsWordsAndTextOfEveryWidth(t *testing.T) {
	for width := 1; width <= 128; width++ {
		digits := strings.Repeat("0110010111", 13)[:width]
		v := vec(t, digits)
		if v.Width() != width || v.Text() != digits {
			t.Errorf("width %d: Width %d, Text %s", width, v.Width(), v.Text())
		}
		for i, set := range v.Bits() {
			if set != (digits[width-1-i] == '1') {
				t.Errorf("width %d: bit %d is %v", width, i, set)
			}
		}
		if want := (width + 63) / 64; len(v.Words()) != want || len(v.Bits()) != width {
			t.Errorf("width %d: %d words, %d bits", width, len(v.Words()), len(v.Bits()))
		}
		if again, err := bv.New(width, v.Words()...); err != api.OK || !bv.Equal(v, again) {
			t.Errorf("width %d: New of Words is %s, not %s", width, again.Text(), digits)
		}
		if again, err := bv.Of(v.Bits()...); err != api.OK || !bv.Equal(v, again) {
			t.Errorf("width %d: Of of Bits is %s, not %s", width, again.Text(), digits)
		}
	}
}

func TestP1_1Words(t *testing.T) {
	for _, x := range []struct {
		width int
		want  []uint64
	}{
		{1, []uint64{1}},
		{63, []uint64{math.MaxUint64 >> 1}},
		{64, []uint64{math.MaxUint64}},
		{65, []uint64{math.MaxUint64, 1}},
		{127, []uint64{math.MaxUint64, math.MaxUint64 >> 1}},
		{128, []uint64{math.MaxUint64, math.MaxUint64}},
	} {
		v, _ := bv.New(x.width, math.MaxUint64, math.MaxUint64)
		if !slices.Equal(v.Words(), x.want) {
			t.Errorf("Words of width %d: %v, not %v", x.width, v.Words(), x.want)
		}
	}
	v, _ := bv.New(128, 5)
	if !slices.Equal(v.Words(), []uint64{5, 0}) {
		t.Errorf("Words of a small number: %v", v.Words())
	}
}

func TestP1_1Num(t *testing.T) {
	for _, x := range []struct {
		width      int
		words      []uint64
		most, want int
	}{
		{4, []uint64{9}, 100, 9},
		{4, []uint64{9}, 10, 9},
		{4, []uint64{9}, 9, 9},
		{4, []uint64{9}, 8, 8},
		{4, []uint64{9}, 0, 0},
		{4, []uint64{9}, -1, 0},
		{4, []uint64{0}, -5, 0},
		{4, []uint64{9}, math.MinInt, 0},
		{64, []uint64{math.MaxInt64}, math.MaxInt, math.MaxInt64},
		{64, []uint64{1 << 63}, math.MaxInt, math.MaxInt},
		{64, []uint64{math.MaxUint64}, math.MaxInt, math.MaxInt},
		{64, []uint64{math.MaxUint64}, 17, 17},
		{65, []uint64{0, 1}, 1000, 1000},
		{65, []uint64{3, 1}, 1000, 1000},
		{65, []uint64{3, 1}, -2, 0},
		{128, []uint64{3}, 1000, 3},
		{128, []uint64{3, 1 << 63}, 1000, 1000},
	} {
		v, _ := bv.New(x.width, x.words...)
		if n := v.Num(x.most); n != x.want {
			t.Errorf("Num(%d) of %v: %d, not %d", x.most, x.words, n, x.want)
		}
	}
}

func TestP1_1Equal(t *testing.T) {
	for _, x := range []struct {
		a, b string
		want bool
	}{
		{"", "", true},
		{"", "0", false},
		{"0", "0", true},
		{"0", "1", false},
		{"0", "00", false},
		{"101", "0101", false},
		{"101", "101", true},
		{"101", "111", false},
		{strings.Repeat("1", 64), strings.Repeat("1", 64), true},
		{strings.Repeat("1", 64), "0" + strings.Repeat("1", 64), false},
		{"1" + strings.Repeat("0", 127), "1" + strings.Repeat("0", 127), true},
		{"1" + strings.Repeat("0", 127), strings.Repeat("0", 128), false},
		{"1" + strings.Repeat("0", 127), "1" + strings.Repeat("0", 126) + "1", false},
	} {
		a, b := vec(t, x.a), vec(t, x.b)
		if bv.Equal(a, b) != x.want || bv.Equal(b, a) != x.want {
			t.Errorf("Equal of %q and %q is not %v", x.a, x.b, x.want)
		}
	}
}

func TestP1_1ZeroVec(t *testing.T) {
	var v bv.Vec
	if v.Width() != 0 || v.Bit(0) || v.Bit(-1) || len(v.Bits()) != 0 || len(v.Words()) != 0 || v.Text() != "" {
		t.Errorf("the zero Vec: %d, %v, %v, %q", v.Width(), v.Bits(), v.Words(), v.Text())
	}
	if v.Num(5) != 0 || v.Num(0) != 0 || v.Num(-5) != 0 {
		t.Errorf("Num of the zero Vec: %d", v.Num(5))
	}
}

func TestP1_1MethodsDoNotChangeAVec(t *testing.T) {
	v := vec(t, "0110")
	v.Width()
	v.Bit(1)
	v.Bits()
	v.Words()
	v.Num(3)
	bv.Equal(v, vec(t, "0111"))
	mustKeep(t, v, "0110")
}
