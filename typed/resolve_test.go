package typed_test

import (
	"fmt"
	"testing"

	"sluicegate/api"
	"sluicegate/ast"
	"sluicegate/bv"
	"sluicegate/sample"
	"sluicegate/typed"
)

// mustEval fails unless the value of a text in a context of a width, in the
// usual state, has these digits, and is what the model says.
func mustEval(t *testing.T, text string, width int, want string) {
	t.Helper()
	e := resolved(t, scope(), text, width)
	if v := typed.Eval(e, usual()); v.Text() != want {
		t.Errorf("P12.2: %s in %d bits: %s, not %s", text, width, v.Text(), want)
	}
	if n := (model{scope(), usual()}).within(expr(t, text), width); vecOf(len(want), n).Text() != want {
		t.Errorf("P12.2: %s in %d bits: the model has %s, not %s", text, width, n.Text(2), want)
	}
}

type example struct {
	text  string
	width int
	want  string
}

func mustEvalAll(t *testing.T, list []example) {
	t.Helper()
	for _, x := range list {
		mustEval(t, x.text, x.width, x.want)
	}
}

// In the usual state, a is 9, b is 200, c is -7, d is -56, z is 0 and y is -1.

func TestP12_2Contexts(t *testing.T) {
	mustEvalAll(t, []example{
		{"a + a", 0, "0010"},
		{"a + a", 1, "0"},
		{"a + a", 3, "010"},
		{"a + a", 4, "0010"},
		{"a + a", 5, "10010"},
		{"a + a", 8, "00010010"},
		{"a + b", 3, "001"},
		{"b + b", 0, "10010000"},
		{"b + b", 9, "110010000"},
		{"( a + a ) >> 1", 0, "0001"},
		{"( a + a ) >> 1", 5, "01001"},
		{"~ a", 6, "110110"},
		{"~ c", 6, "000110"},
		{"- a", 6, "110111"},
		{"- c", 6, "000111"},
		{"- y", 2, "01"},
		{"- z", 1, "0"},
		{"c", 3, "001"},
		{"c", 6, "111001"},
		{"a", 6, "001001"},
		{"c", 128, ones[:124] + "1001"},
		{"a", 128, zeros[:124] + "1001"},
		{"c", 64, ones[:60] + "1001"},
		{"c", 65, ones[:61] + "1001"},
		{"{ c }", 6, "001001"},
		{"{ a + a }", 8, "00000010"},
		{"{ a + a , 1'b1 }", 0, "00101"},
		{"u64 + 1'b1", 0, ones[:64]},
		{"u64 + 2'd2", 0, zeros[:64]},
		{"u64 + 2'd2", 65, "1" + zeros[:64]},
		{"u128 + 2'd2", 0, zeros},
		{"u128 + 2'd2", 128, zeros},
		{"s128 * s128", 0, zeros[:125] + "100"},
		{"s64 * s64", 128, zeros[:125] + "100"},
		{"u65 - u128", 65, zeros[:65]},
		{"5", 0, zeros[:29] + "101"},
		{"- 5", 40, ones[:37] + "011"},
		{"'hffffffff", 40, zeros[:8] + ones[:32]},
		{"'shffffffff", 40, ones[:40]},
		{"N", 40, ones[:40]},
		{"W", 2, "11"},
		{"LEAST", 33, "11" + zeros[:31]},
	})
}

func TestP12_2Signs(t *testing.T) {
	mustEvalAll(t, []example{
		{"c + d", 0, "11000001"},
		{"c + d", 10, "1111000001"},
		{"c + b", 0, "11010001"},
		{"c + b", 10, "0011010001"},
		{"c + { d }", 10, "0011010001"},
		{"c + a", 5, "10010"},
		{"$signed ( a ) + c", 6, "110010"},
		{"$unsigned ( c ) + $unsigned ( c )", 6, "010010"},
		{"$signed ( a + a )", 6, "000010"},
		{"$signed ( b )", 10, "1111001000"},
		{"$unsigned ( d )", 10, "0011001000"},
		{"$signed ( c + 4'sd1 )", 6, "111010"},
		{"c / 4'sd2", 0, "1101"},
		{"c % 4'sd2", 0, "1111"},
		{"c / 4'd2", 0, "0100"},
		{"c % 4'd2", 0, "0001"},
		{"c / 2", 0, ones[:30] + "01"},
		{"c / 2", 4, "1101"},
		{"d / c", 0, "00001000"},
		{"d % c", 0, "00000000"},
		{"a / b", 0, "00000000"},
		{"b / a", 0, "00010110"},
		{"b % a", 0, "00000010"},
		{"c / z", 0, "1111"},
		{"c % z", 0, "1001"},
		{"c / 1'sb0", 6, "111111"},
		{"c % 1'sb0", 6, "111001"},
		{"c & d", 10, "1111001000"},
		{"c & b", 10, "0000001000"},
		{"c | d", 10, "1111111001"},
		{"c ^ b", 10, "0011000001"},
		{"c ~^ b", 10, "1100111110"},
		{"c ~^ d", 9, "111001110"},
		{"z ? a : b", 0, "11001000"},
		{"z ? b : c", 0, "00001001"},
		{"z ? d : c", 0, "11111001"},
		{"y ? c : d", 10, "1111111001"},
		{"y ? c : b", 10, "0000001001"},
		{"u128 ? a : a + a", 5, "01001"},
		{"( a & 4'd6 ) ? a : a + a", 5, "10010"},
	})
}

func TestP12_2Comparisons(t *testing.T) {
	mustEvalAll(t, []example{
		{"c < d", 0, "0"},
		{"d < c", 0, "1"},
		{"d <= c", 0, "1"},
		{"d > c", 0, "0"},
		{"c > d", 0, "1"},
		{"c >= d", 0, "1"},
		{"c >= c", 0, "1"},
		{"c > c", 0, "0"},
		{"c <= c", 0, "1"},
		{"c < a", 0, "0"},
		{"a < c", 0, "0"},
		{"c == a", 0, "1"},
		{"c == b", 0, "0"},
		{"c != b", 0, "1"},
		{"b == d", 0, "1"},
		{"c < 0", 0, "1"},
		{"c < 1'b0", 0, "0"},
		{"c < 4'd0", 0, "0"},
		{"y == 8'hff", 0, "0"},
		{"y == 8'shff", 0, "1"},
		{"y == - 1", 0, "1"},
		{"z == 0", 0, "1"},
		{"s65 < s128", 0, "0"},
		{"s65 == s128", 0, "1"},
		{"u65 == u128", 0, "0"},
		{"s64 < u65", 0, "1"},
		{"a + a == 5'd18", 0, "1"},
		{"( a + a ) == 4'd2", 0, "1"},
		{"c < d", 8, "00000000"},
		{"d < c", 8, "00000001"},
		{"- ( d < c )", 4, "1111"},
		{"( d < c ) + ( d < c )", 2, "10"},
	})
}

func TestP12_2Reductions(t *testing.T) {
	mustEvalAll(t, []example{
		{"! a", 0, "0"},
		{"! z", 0, "1"},
		{"! z", 3, "001"},
		{"& a", 0, "0"},
		{"& y", 0, "1"},
		{"& ~ z", 0, "1"},
		{"& ~ z", 4, "0001"},
		{"| a", 0, "1"},
		{"| z", 0, "0"},
		{"^ a", 0, "0"},
		{"^ b", 0, "1"},
		{"~& a", 0, "1"},
		{"~& y", 0, "0"},
		{"~| a", 0, "0"},
		{"~| z", 0, "1"},
		{"~^ a", 0, "1"},
		{"~^ b", 0, "0"},
		{"~^ b", 3, "000"},
		{"^ u65", 0, "0"},
		{"^ u128", 0, "1"},
		{"& s128", 0, "0"},
		{"| ( a + 4'd7 )", 0, "0"},
		{"! ( a + 4'd7 )", 8, "00000001"},
		{"a && b", 0, "1"},
		{"a && z", 0, "0"},
		{"z && a", 0, "0"},
		{"z || a", 0, "1"},
		{"a || z", 0, "1"},
		{"z || z", 0, "0"},
		{"y && s128", 3, "001"},
		{"( a + 4'd7 ) || z", 5, "00000"},
		{"( a + 5'd7 ) && y", 5, "00001"},
	})
}

func TestP12_2Shifts(t *testing.T) {
	mustEvalAll(t, []example{
		{"a << 1", 0, "0010"},
		{"a <<< 1", 0, "0010"},
		{"a << 1", 8, "00010010"},
		{"a << 4", 0, "0000"},
		{"a << 4", 8, "10010000"},
		{"a << 8", 8, "00000000"},
		{"a << b", 0, "0000"},
		{"a << 16", 0, "0000"},
		{"a << 32", 0, "0000"},
		{"a << 33'h100000000", 0, "0000"},
		{"a << 33'h100000001", 0, "0000"},
		{"a << u128", 0, "0000"},
		{"a << { 1'b1 , 127'd1 }", 0, "0000"},
		{"a << 128'd1", 0, "0010"},
		{"a << 64'd1", 3, "010"},
		{"c >> 1", 0, "0100"},
		{"c >> 1", 6, "011100"},
		{"c >> 1", 2, "00"},
		{"c >>> 1", 0, "1100"},
		{"c >>> 1", 6, "111100"},
		{"c >>> 3", 0, "1111"},
		{"c >>> 4", 0, "1111"},
		{"c >>> 100", 0, "1111"},
		{"c >>> u128", 0, "1111"},
		{"c >>> { 1'b1 , 127'd1 }", 0, "1111"},
		{"c >> 4", 0, "0000"},
		{"c >> 4", 6, "000011"},
		{"c >> u128", 0, "0000"},
		{"c >> 128'd1", 0, "0100"},
		{"c >>> 128'd1", 0, "1100"},
		{"c << 128'd1", 0, "0010"},
		{"a >>> 1", 0, "0100"},
		{"( c >>> 1 ) + a", 0, "1101"},
		{"( c >>> 1 ) + b", 0, "11001100"},
		{"( c >>> 1 ) + d", 0, "11000100"},
		{"c >>> z", 0, "1001"},
		{"c << y", 0, "0010"},
		{"c << c", 0, "0000"},
		{"u128 << c", 0, ones[:118] + "0" + zeros[:9]},
		{"u128 >> 8'd127", 0, zeros[:127] + "1"},
		{"u128 >> 8'd128", 0, zeros},
		{"u128 << 8'd128", 0, zeros},
		{"s128 >>> 8'd128", 0, ones},
		{"s128 >>> 7'd1", 0, ones},
		{"s65 >>> 64", 0, ones[:65]},
		{"s65 >> 64", 0, zeros[:64] + "1"},
		{"s64 >> 64", 65, zeros[:64] + "1"},
		{"s64 >> 64", 0, zeros[:64]},
		{"a << ( a + a )", 0, "0100"},
		{"{ a << 1 , 1'b1 }", 0, "00101"},
	})
}

func TestP12_2Parts(t *testing.T) {
	mustEvalAll(t, []example{
		{"a [ 0 ]", 0, "1"},
		{"a [ 1 ]", 0, "0"},
		{"a [ 3 ]", 0, "1"},
		{"a [ 3 ]", 5, "00001"},
		{"y [ 0 ]", 4, "0001"},
		{"d [ 7 ]", 4, "0001"},
		{"u128 [ 127 ]", 0, "1"},
		{"u128 [ 0 ]", 0, "0"},
		{"u65 [ 64 ]", 0, "1"},
		{"a [ W ]", 0, "1"},
		{"a [ W - 2 ]", 0, "0"},
		{"a [ 4'd15 + 4'd1 - 5'd16 ]", 0, "1"},
		{"a [ z ]", 0, "1"},
		{"a [ y ]", 0, "0"},
		{"a [ b ]", 0, "0"},
		{"a [ z - 1'b1 ]", 0, "0"},
		{"a [ u128 ]", 0, "0"},
		{"a [ 4 + z ]", 0, "0"},
		{"a [ 3 + z ]", 4, "0001"},
		{"a [ { 1'b1 , 127'd0 } ]", 0, "0"},
		{"a [ 128'd3 + z ]", 0, "1"},
		{"u128 [ { a , 2'b10 } ]", 0, "1"},
		{"u128 [ b ]", 0, "0"},
		{"a [ { 1'b1 } ]", 0, "0"},
		{"a [ 3 : 0 ]", 0, "1001"},
		{"a [ W : 1 ]", 0, "100"},
		{"a [ 3 : 3 ]", 0, "1"},
		{"c [ 3 : 0 ]", 6, "001001"},
		{"u128 [ 127 : 64 ]", 0, ones[:64]},
		{"u128 [ 64 : 0 ]", 0, ones[:64] + "0"},
		{"u65 [ 64 : 63 ]", 3, "011"},
		{"z [ 0 : 0 ]", 2, "00"},
		{"{ a , 2'b10 }", 0, "100110"},
		{"{ a , 2'b10 }", 8, "00100110"},
		{"{ a , 2'b10 }", 3, "110"},
		{"{ y , z , y }", 0, "101"},
		{"{ 2 { a } }", 0, "10011001"},
		{"{ 1 { c } }", 6, "001001"},
		{"{ W { y , z } }", 0, "101010"},
		{"{ 128 { y } }", 0, ones},
		{"{ 2 { a + a } }", 10, "0000100010"},
		{"{ u64 , s64 }", 0, ones[:63] + "0" + ones[:63] + "0"},
		{"{ 5 { c , 1'b0 } } == 25'b1001010010100101001010010", 0, "1"},
	})
}

func TestP12_2Memories(t *testing.T) {
	mustEvalAll(t, []example{
		{"m [ 0 ]", 0, "00000000"},
		{"m [ 3 ]", 0, "00011110"},
		{"m [ W ]", 10, "0000011110"},
		{"m [ 2 ]", 3, "100"},
		{"m [ z ]", 0, "00000000"},
		{"m [ y ]", 0, "00001010"},
		{"m [ a ]", 0, "00000000"},
		{"m [ a - 4'd6 ]", 0, "00011110"},
		{"m [ a + 4'd9 ]", 0, "00010100"},
		{"m [ a + 5'd9 ]", 0, "00000000"},
		{"m [ b ]", 0, "00000000"},
		{"m [ u128 ]", 0, "00000000"},
		{"m [ { 1'b1 , 127'd1 } ]", 0, "00000000"},
		{"m [ 64'd1 ]", 0, "00001010"},
		{"m [ - 1 + z ]", 0, "00000000"},
		{"m [ 3 ] + m [ 2 ]", 0, "00110010"},
		{"n [ 0 ]", 0, "11110"},
		{"n [ 63 ]", 7, "1111110"},
		{"n [ c ]", 7, "1111110"},
		{"n [ a ] + a", 7, "0100111"},
		{"n [ a ] + c", 7, "1110111"},
		{"n [ b ]", 7, "0000000"},
		{"one [ 0 ]", 0, ones[:127] + "0"},
		{"one [ z ]", 0, ones[:127] + "0"},
		{"one [ y ]", 0, zeros},
		{"m [ m [ 0 ] ]", 0, "00000000"},
		{"n [ m [ 1 ] ] == n [ 10 ]", 0, "1"},
	})
}

// TestP12_2AddressesAreTheBitsOfTheIndex: even if it is constant, so that
// 2'd3 + 2'd1 is word 0, though its value for layer 11 is 4 and its own error.
func TestP12_2AddressesAreTheBitsOfTheIndex(t *testing.T) {
	mustEvalAll(t, []example{
		{"n [ 2'd3 + 2'd1 ] ^ n [ 0 ]", 0, "00000"},
		{"m [ 1'b1 + 1'b1 ]", 0, "00000000"},
		{"m [ 2'd3 - 2'd1 ]", 0, "00010100"},
		{"m [ 2'sb11 + 2 ]", 0, "00001010"},
	})
	e := resolved(t, scope(), "m [ 5'd3 ]", 0)
	if e.Kind != typed.Word || show(e.Args[0]) != show(num("00011")) {
		t.Errorf("P12.2: %s", show(e))
	}
	mustFail(t, "m [ 3'd3 + 3'd1 ]", api.ErrRange, "m [ 3'd3 + 3'd1 ]")
}

func TestP12_2Functions(t *testing.T) {
	mustEvalAll(t, []example{
		{"twice ( a )", 0, "0010"},
		{"twice ( a )", 8, "00000010"},
		{"twice ( b )", 0, "0000"},
		{"twice ( a + a )", 0, "0100"},
		{"twice ( u128 )", 0, "1100"},
		{"twice ( 3 )", 2, "10"},
		{"same ( a )", 0, "1001"},
		{"same ( a )", 6, "111001"},
		{"same ( a ) + a", 6, "010010"},
		{"same ( y )", 0, "1111"},
		{"same ( z )", 0, "0000"},
		{"same ( { y } )", 0, "0001"},
		{"last ( 1 , y )", 6, "001111"},
		{"mix ( b , y )", 0, "11001001"},
		{"mix ( b , c )", 0, "11001111"},
		{"mix ( c , 1 )", 0, "11111000"},
		{"mix ( a , 1 )", 0, "00001000"},
		{"mix ( a + a , 0 )", 0, "00010010"},
		{"mix ( y , 0 )", 10, "1111111111"},
		{"fixed ( a )", 0, "1000001"},
		{"fixed ( a )", 9, "111000001"},
		{"twice ( twice ( twice ( 1 ) ) )", 0, "1000"},
		{"mix ( mix ( b , c ) , twice ( a ) )", 0, "11001101"},
		{"{ twice ( 1 ) , same ( 2 ) }", 0, "00100010"},
		{"$signed ( twice ( 4 ) )", 6, "111000"},
	})
	e := part(ast.Call, "none")
	if width, signed, _, err := typed.Self(scope(), e); width != 3 || signed || err != api.OK {
		t.Errorf("P12.1: a function without parameters: %d, %v, error %d", width, signed, err)
	}
	x, _, err := typed.Resolve(scope(), e, 5)
	if v := typed.Eval(x, usual()); err != api.OK || v.Text() != "00101" {
		t.Errorf("P12.2: a function without parameters: %s, error %d", v.Text(), err)
	}
}

// TestP12_2Example is the example of the chapter.
func TestP12_2Example(t *testing.T) {
	s := typed.Scope{}.Sig("a", 0, typed.Sig{Name: "a", Width: 4}).Sig("b", 1, typed.Sig{Name: "b", Width: 8})
	if width, signed, _, err := typed.Self(s, expr(t, "a + b")); width != 8 || signed || err != api.OK {
		t.Errorf("P12.1: %d, %v, error %d", width, signed, err)
	}
	e := resolved(t, s, "a + b", 16)
	a, b := typed.Signal(0, typed.Sig{Width: 4}), typed.Signal(1, typed.Sig{Width: 8})
	want := typed.Two(bv.Add, typed.Wide(a, 16, false), typed.Wide(b, 16, false))
	if show(e) != show(want) {
		t.Errorf("P12.2: %s, not %s", show(e), show(want))
	}
}

// TestP12_2Shapes: what the chapter says of the results themselves.
func TestP12_2Shapes(t *testing.T) {
	a, b := ref("a"), ref("b")
	slice := func(e typed.Expr, lo, width int) typed.Expr {
		return typed.Expr{Kind: typed.Slice, Width: width, Lo: lo, Args: []typed.Expr{e}}
	}
	for _, x := range []struct {
		text  string
		width int
		want  typed.Expr
	}{
		{"a", 0, a},
		{"a", 4, a},
		{"a", 2, slice(a, 0, 2)},
		{"a + b", 3, slice(typed.Two(bv.Add, typed.Wide(a, 8, false), b), 0, 3)},
		{"b [ 3 ]", 0, slice(b, 3, 1)},
		{"b [ 5 : 2 ]", 0, slice(b, 2, 4)},
		{"b [ 7 : 0 ]", 0, b},
		{"z [ 0 ]", 0, ref("z")},
		{"b [ a ]", 0, typed.Expr{Kind: typed.Pick, Width: 1, Args: []typed.Expr{b, a}}},
		{"m [ a ]", 0, word("m", a)},
		{"c", 6, typed.Wide(ref("c"), 6, true)},
		{"5'd3", 0, num("00011")},
	} {
		if e := resolved(t, scope(), x.text, x.width); show(e) != show(x.want) {
			t.Errorf("P12.2: %s in %d bits: %s, not %s", x.text, x.width, show(e), show(x.want))
		}
	}
}

// TestP12_2EveryWidth: each signal in contexts of all widths.
func TestP12_2EveryWidth(t *testing.T) {
	want := model{scope(), usual()}
	for width := range 129 {
		for _, text := range []string{"c", "u65", "s128", "a + d", "c * s64", "- a", "~ y", "c >>> 1", "z ? a : u64", "a < b", "{ 3 { a } }", "mix ( a , b )", "n [ 1 ]", "W"} {
			mustAgree(t, want, sample.Placed(expr(t, text)), width)
		}
	}
}

func TestP12_2LeavesItsArgumentsAlone(t *testing.T) {
	for _, text := range []string{"a + twice ( b ) * 3", "{ 2 { a , m [ c ] } }", "a [ 9 ]", "z ? no : 1"} {
		e := expr(t, text)
		before := fmt.Sprint(e)
		x, _, _ := typed.Resolve(scope(), e, 9)
		y, _, _ := typed.Resolve(scope(), e, 9)
		mustShareNothing(t, x)
		spoil(x)
		if again, _, _ := typed.Resolve(scope(), e, 9); show(again) != show(y) || fmt.Sprint(e) != before {
			t.Errorf("P12.2: %s has changed", text)
		}
	}
}
