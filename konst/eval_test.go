package konst_test

import (
	"testing"

	"sluicegate/ast"
)

// mustBeAll checks expressions with their values.
func mustBeAll(t *testing.T, values map[string]int) {
	t.Helper()
	for text, want := range values {
		mustBe(t, expr(t, text), want)
	}
}

func TestP11_1Numbers(t *testing.T) {
	mustBeAll(t, map[string]int{
		"0": 0, "007": 7, "1_000": 1000, "2147483647": 1<<31 - 1,
		"'h7fffffff": 1<<31 - 1, "'sh7fffffff": 1<<31 - 1, "'sh80000000": -1 << 31, "'shffffffff": -1,
		"4'sb1000": -8, "4'b1000": 8, "1'sb1": -1, "1'b1": 1, "3'd9": 1,
		"64'sh0_0": 0, "128'shffffffffffffffffffffffffffffffff": -1, "128'h7fffffff": 1<<31 - 1,
		"128'shffffffffffffffffffffffff80000000": -1 << 31,
	})
}

func TestP11_1Names(t *testing.T) {
	mustBeAll(t, map[string]int{
		"W": 8, "N": -5, "W + N": 3, "LEAST": -1 << 31, "MOST": 1<<31 - 1, "MOST + LEAST": -1,
	})
}

func TestP11_1Unary(t *testing.T) {
	mustBeAll(t, map[string]int{
		"- 5": -5, "- N": 5, "- 0": 0, "- MOST": -1<<31 + 1, "- - 5": 5,
		"~ 5": -6, "~ N": 4, "~ 0": -1, "~ LEAST": 1<<31 - 1, "~ MOST": -1 << 31,
		"! 0": 1, "! 1": 0, "! N": 0, "! ! 7": 1, "! 0 + 1": 2,
		"- 4'sb1000": 8, "- 3'd7": -7,
	})
}

func TestP11_1Arithmetic(t *testing.T) {
	mustBeAll(t, map[string]int{
		"3 + 4": 7, "3 - 4": -1, "3 * - 4": -12, "MOST + 0": 1<<31 - 1, "MOST - 1 + 1": 1<<31 - 1,
		"LEAST + 1 - 1": -1 << 31, "- MOST - 1": -1 << 31, "65536 * 32767": 65536 * 32767, "65536 * - 32768": -1 << 31,
		"8'd255 + 8'd1": 256, "1 + 2 * 3": 7, "7 - 2 - 1": 4,
	})
}

func TestP11_1Division(t *testing.T) {
	mustBeAll(t, map[string]int{
		"7 / 2": 3, "- 7 / 2": -3, "7 / - 2": -3, "- 7 / - 2": 3,
		"7 % 2": 1, "- 7 % 2": -1, "7 % - 2": 1, "- 7 % - 2": -1,
		"6 / 3": 2, "- 6 / 3": -2, "6 % 3": 0, "- 6 % 3": 0, "0 / N": 0, "0 % N": 0,
		"1 / 2": 0, "- 1 / 2": 0, "- 1 % 2": -1,
		"LEAST / 1": -1 << 31, "LEAST % - 1": 0, "LEAST / 2": -1 << 30, "LEAST / LEAST": 1, "MOST / LEAST": 0,
		"MOST % LEAST": 1<<31 - 1, "LEAST % MOST": -1, "LEAST / MOST": -1,
	})
}

func TestP11_1Bitwise(t *testing.T) {
	mustBeAll(t, map[string]int{
		"12 & 10": 8, "12 | 10": 14, "12 ^ 10": 6, "12 ~^ 10": -7,
		"N & 6": 2, "N | 6": -1, "N ^ 6": -3, "N ~^ 6": 2, "5 ~^ 3": -7, "5 ~^ 5": -1,
		"LEAST & MOST": 0, "LEAST | MOST": -1, "LEAST ^ MOST": -1, "LEAST ~^ MOST": 0, "LEAST ^ N": 1<<31 - 5,
	})
}

func TestP11_1Shifts(t *testing.T) {
	for _, up := range []string{"<<", "<<<"} {
		mustBeAll(t, map[string]int{
			"5 " + up + " 0": 5, "5 " + up + " 1": 10, "N " + up + " 3": -40, "1 " + up + " 30": 1 << 30,
			"- 1 " + up + " 31": -1 << 31, "0 " + up + " 31": 0, "LEAST " + up + " 0": -1 << 31,
		})
	}
	for _, down := range []string{">>", ">>>"} {
		mustBeAll(t, map[string]int{
			"5 " + down + " 0": 5, "5 " + down + " 1": 2, "N " + down + " 1": -3, "- 1 " + down + " 31": -1,
			"- 8 " + down + " 2": -2, "LEAST " + down + " 31": -1, "MOST " + down + " 31": 0, "MOST " + down + " 30": 1,
			"LEAST " + down + " 0": -1 << 31, "- 1 " + down + " 1": -1,
		})
	}
}

func TestP11_1Comparisons(t *testing.T) {
	for _, x := range []struct {
		sign                 string
		less, equal, greater int
	}{
		{"<", 1, 0, 0},
		{"<=", 1, 1, 0},
		{">", 0, 0, 1},
		{">=", 0, 1, 1},
		{"==", 0, 1, 0},
		{"!=", 1, 0, 1},
	} {
		mustBeAll(t, map[string]int{
			"3 " + x.sign + " 4": x.less, "LEAST " + x.sign + " MOST": x.less, "N " + x.sign + " 0": x.less,
			"4 " + x.sign + " 4": x.equal, "LEAST " + x.sign + " LEAST": x.equal, "- 1 " + x.sign + " 1'sb1": x.equal,
			"5 " + x.sign + " 4": x.greater, "MOST " + x.sign + " LEAST": x.greater, "- 1 " + x.sign + " N": x.greater,
		})
	}
}

func TestP11_1Logic(t *testing.T) {
	mustBeAll(t, map[string]int{
		"2 && 4": 1, "0 && 1": 0, "1 && 0": 0, "N && N": 1, "0 || 0": 0, "0 || N": 1, "N || 0": 1, "2 || 4": 1,
		"1 ? 5 : 6": 5, "0 ? 5 : 6": 6, "N ? 5 : 6": 5, "ZERO ? 1 : W ? 2 : 3": 2,
	})
}

// TestP11_1OperandsThatAreNotEvaluated: errors in them are none.
func TestP11_1OperandsThatAreNotEvaluated(t *testing.T) {
	for _, wrong := range []string{"x", "( 1 / 0 )", "OVER", "{ 1 }", "( 1 << 32 )", "( & 1 )"} {
		mustBeAll(t, map[string]int{
			"0 && " + wrong: 0, "1 || " + wrong: 1, "N || " + wrong: 1,
			"1 ? 5 : " + wrong: 5, "0 ? " + wrong + " : 6": 6,
			"0 && " + wrong + " || 1 || " + wrong: 1,
		})
	}
}

func TestP11_1Deep(t *testing.T) {
	const depth = 1 << 16
	minus, sum, right := value("1"), value("1"), value("1")
	for range depth {
		minus = ast.Expr{Kind: ast.Un, Text: "-", Args: []ast.Expr{minus}}
		sum = bin(sum, "+", value("1"))
		right = bin(value("1"), "-", right)
	}
	mustBe(t, minus, 1)
	mustBe(t, sum, depth+1)
	mustBe(t, right, 1)
}

func TestP11_1LeavesItsArgumentAlone(t *testing.T) {
	for _, text := range []string{"( W + 1 ) * - N", "0 && x", "1 / 0", "{ 1 , x }"} {
		e := expr(t, text)
		before := show(e)
		mustSayTheSame(t, e)
		if show(e) != before {
			t.Errorf("P11.1: Eval changed %s", text)
		}
	}
}
