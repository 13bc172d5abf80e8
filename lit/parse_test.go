package lit_test

import (
	"math/big"
	"regexp"
	"strings"
	"testing"

	"sluicegate/api"
	"sluicegate/bv"
	"sluicegate/lit"
)

// mustParse fails unless s is a literal with these bits.
func mustParse(t *testing.T, s, bits string, signed, sized bool) {
	t.Helper()
	l, err := lit.Parse(s)
	if err != api.OK || l.Val.Text() != bits || l.Signed != signed || l.Sized != sized {
		t.Errorf("P2.1: Parse(%q): %+v, bits %s, error %d; want %s, %v, %v", s, l, l.Val.Text(), err, bits, signed, sized)
	}
}

// mustReject fails unless Parse returns that error, and the zero Lit with it.
func mustReject(t *testing.T, s string, want api.Errno) {
	t.Helper()
	l, err := lit.Parse(s)
	if err != want || l.Signed || l.Sized || !bv.Equal(l.Val, bv.Vec{}) {
		t.Errorf("P2.1: Parse(%q): %+v, error %d; want error %d", s, l, err, want)
	}
}

// binary returns the digits of n modulo 2 to the power of width.
func binary(n *big.Int, width int) string {
	power := new(big.Int).Lsh(big.NewInt(1), uint(width))
	digits := new(big.Int).Mod(n, power).Text(2)
	return strings.Repeat("0", width-len(digits)) + digits
}

func TestP2_1Plain(t *testing.T) {
	for s, n := range map[string]int64{
		"0": 0, "1": 1, "9": 9, "17": 17, "000": 0, "0017": 17, "1_7": 17, "1_": 1, "1__0__": 10, "0_": 0,
		"1234567890": 1234567890, "2147483647": 1<<31 - 1, "00000000002147483647": 1<<31 - 1, "2_147_483_647": 1<<31 - 1,
	} {
		mustParse(t, s, binary(big.NewInt(n), 32), true, false)
	}
	for _, s := range []string{
		"2147483648", "2147483649", "2147483650", "2_147_483_648", "4294967296", "4294967297", "9999999999",
		"18446744073709551616", "18446744073709551617", "340282366920938463463374607431768211457",
		"1" + strings.Repeat("0", 500), "02147483648",
	} {
		mustReject(t, s, api.ErrRange)
	}
}

func TestP2_1Based(t *testing.T) {
	for _, x := range []struct {
		s, bits       string
		signed, sized bool
	}{
		{"8'hfF", "11111111", false, true},
		{"4'sb1_010", "1010", true, true},
		{"3'd9", "001", false, true},
		{"1'b1", "1", false, true},
		{"1'b0", "0", false, true},
		{"1'd3", "1", false, true},
		{"1'sd2", "0", true, true},
		{"4'B1010", "1010", false, true},
		{"6'o17", "001111", false, true},
		{"6'O71", "111001", false, true},
		{"8'D200", "11001000", false, true},
		{"8'H0a", "00001010", false, true},
		{"8'hA0", "10100000", false, true},
		{"8'hbc", "10111100", false, true},
		{"8'hDE", "11011110", false, true},
		{"8'd256", "00000000", false, true},
		{"8'd511", "11111111", false, true},
		{"4'hff", "1111", false, true},
		{"4'b110101", "0101", false, true},
		{"4'o77", "1111", false, true},
		{"4'SB1010", "1010", true, true},
		{"4'Sh5", "0101", true, true},
		{"4'sO5", "0101", true, true},
		{"4'sD5", "0101", true, true},
		{"4'sH5", "0101", true, true},
		{"004'b11", "0011", false, true},
		{"4'b1_", "0001", false, true},
		{"4'b1__0_", "0010", false, true},
		{"8'hf_f", "11111111", false, true},
		{"8'd2_5_5", "11111111", false, true},
		{"1_0'b1", "0000000001", false, true},
		{"4_'b1", "0001", false, true},
		{"'b101", strings.Repeat("0", 29) + "101", false, false},
		{"'hff", strings.Repeat("0", 24) + "11111111", false, false},
		{"'sd5", strings.Repeat("0", 29) + "101", true, false},
		{"'So7", strings.Repeat("0", 29) + "111", true, false},
		{"'d2147483648", "1" + strings.Repeat("0", 31), false, false},
		{"'d4294967296", strings.Repeat("0", 32), false, false},
		{"'sh80000000", "1" + strings.Repeat("0", 31), true, false},
		{"'h1_8000_0001", "1" + strings.Repeat("0", 30) + "1", false, false},
		{"32'd4294967295", strings.Repeat("1", 32), false, true},
	} {
		mustParse(t, x.s, x.bits, x.signed, x.sized)
	}
}

func TestP2_1EveryWidthAndBase(t *testing.T) {
	number, _ := new(big.Int).SetString("7654321fedcba9876543210deadbeefcafe0123456789abcdef", 16)
	for width := 1; width <= 128; width++ {
		for letter, base := range map[string]int{"b": 2, "o": 8, "d": 10, "h": 16, "H": 16} {
			digits := number.Text(base)
			if letter == "H" {
				digits = strings.ToUpper(digits)
			}
			head := big.NewInt(int64(width)).String() + "'"
			mustParse(t, head+letter+digits, binary(number, width), false, true)
			mustParse(t, head+"s"+letter+"0_0"+digits+"_", binary(number, width), true, true)
		}
	}
}

func TestP2_1EveryDigitOfEveryBase(t *testing.T) {
	for letter, base := range map[string]int{"b": 2, "B": 2, "o": 8, "O": 8, "d": 10, "D": 10, "h": 16, "H": 16} {
		for c := range 256 {
			digit := string([]byte{byte(c)})
			value, isHex := new(big.Int).SetString(digit, 16)
			for _, head := range []string{"8'" + letter, "8'" + letter + "1"} {
				switch {
				case isHex && value.Int64() < int64(base):
					sum := new(big.Int).Set(value)
					if strings.HasSuffix(head, "1") {
						sum.Add(sum, big.NewInt(int64(base)))
					}
					mustParse(t, head+digit, binary(sum, 8), false, true)
				case digit == "_" && strings.HasSuffix(head, "1"):
					mustParse(t, head+digit, "00000001", false, true)
				default:
					mustReject(t, head+digit, api.ErrForm)
				}
			}
		}
	}
}

func TestP2_1ErrorsAtTheEnd(t *testing.T) {
	for _, s := range []string{
		"", "'", "4'", "4_'", "4's", "4'S", "4'h", "4'sh", "'d", "'s", "0'", "999'sb",
	} {
		mustReject(t, s, api.ErrEnd)
	}
}

func TestP2_1ErrorsOfTheForm(t *testing.T) {
	for _, s := range []string{
		"_", "_1", "_'h1", "1a", "a", " 1", "1 ", "-1", "+1", "1.5", "4 'b1", "4' b1", "4'b 1", "4'b1 ", "4'b2",
		"4'b12", "4'o8", "4'da", "4'hg", "4'hG", "4'x1", "4'1", "4'_b1", "4'ss1", "4'ssb1", "4'bs1", "4's_b1",
		"4's1", "4'h_1", "4'h_", "4'b1'b1", "4''b1", "4'bx", "4'bz", "4'b1\x00", "4'b1\xff", "\xff", "１", "4'b１",
	} {
		mustReject(t, s, api.ErrForm)
	}
}

func TestP2_1ErrorsOfTheWidth(t *testing.T) {
	for _, s := range []string{
		"0'b1", "00'b1", "0_0'd1", "129'b1", "1_29'b1", "1000'sh1", "4294967297'b1", "18446744073709551617'b1",
		strings.Repeat("9", 300) + "'b1",
	} {
		mustReject(t, s, api.ErrWidth)
	}
}

func TestP2_1ErrorsOfTheFormComeFirst(t *testing.T) {
	for s, want := range map[string]api.Errno{
		"0'b2": api.ErrForm, "129'": api.ErrEnd, "129'b": api.ErrEnd, "129'q": api.ErrForm,
		"9999999999a": api.ErrForm, "9999999999'": api.ErrEnd, "9999999999 ": api.ErrForm, "0'h_": api.ErrForm,
	} {
		mustReject(t, s, want)
	}
}

// TestP2_1AllShortStrings compares Parse with the whole literals, and with
// what they begin with, as expressions.
func TestP2_1AllShortStrings(t *testing.T) {
	whole := regexp.MustCompile(`^([0-9][0-9_]*|([0-9][0-9_]*)?'[sS]?([bB][01][01_]*|[oO][0-7][0-7_]*|[dD][0-9][0-9_]*|[hH][0-9a-fA-F][0-9a-fA-F_]*))$`)
	begun := regexp.MustCompile(`^(([0-9][0-9_]*)?'([sS]?[bBoOdDhH]?)?)?$`)
	noWidth := regexp.MustCompile(`^[0_]+'`)
	alphabet := "017_'sSbBdhoaz "
	var visit func(s string, left int)
	visit = func(s string, left int) {
		want := api.ErrForm
		if begun.MatchString(s) {
			want = api.ErrEnd
		} else if whole.MatchString(s) {
			want = api.OK
			if noWidth.MatchString(s) {
				want = api.ErrWidth
			}
		}
		if _, err := lit.Parse(s); err != want {
			t.Errorf("P2.1: Parse(%q): error %d, not %d", s, err, want)
		}
		for i := 0; i < len(alphabet) && left > 0; i++ {
			visit(s+alphabet[i:i+1], left-1)
		}
	}
	visit("", 4)
	visit("1'", 4)
	visit("1'sb", 3)
}

func TestP2_1LongLiterals(t *testing.T) {
	mustParse(t, "4'b"+strings.Repeat("0", 10000)+"1", "0001", false, true)
	mustParse(t, strings.Repeat("0", 10000)+"4'b1", "0001", false, true)
	mustParse(t, "7"+strings.Repeat("_", 10000), strings.Repeat("0", 29)+"111", true, false)
	mustParse(t, "8'b"+strings.Repeat("10", 5000), "10101010", false, true)
}
