package pre_test

import (
	"slices"
	"strings"
	"testing"

	"sluicegate/api"
	"sluicegate/pre"
	"sluicegate/src"
)

func TestP7_1Pieces(t *testing.T) {
	for _, x := range []struct{ text, want string }{
		{"", ""},
		{"\n", `1:1:1 "\n"`},
		{"a", `1:1:1 "a"`},
		{"a\n", `1:1:1 "a\n"`},
		{"a\n\n b\nc", `1:1:1 "a\n\n b\nc"`},
		{" \t\r", `1:1:1 " \t\r"`},
		{"\x00\xff\v\f\r\n\xc3é", `1:1:1 "\x00\xff\v\f\r\n\xc3é"`},
		{"`define W 8\na `W b\n", `1:1:12 "\na " 1:2:3! "8" 1:2:5 " b\n"`},
		{"`define W 8", ""},
		{"`define W 8\n", `1:1:12 "\n"`},
		{"`define W 8\n`undef W\n`define V\nx", `1:1:12 "\n" 1:2:9 "\n" 1:3:10 "\nx"`},
		{"a\n  `define W 8 \t\r\nb", `1:1:1 "a\n" 1:2:17 "\nb"`},
		{"`define W 8\n`W", `1:1:12 "\n" 1:2:1! "8"`},
		{"`define W 8\n`W\n", `1:1:12 "\n" 1:2:1! "8" 1:2:3 "\n"`},
		{"`define W 8\n`W\nb", `1:1:12 "\n" 1:2:1! "8" 1:2:3 "\nb"`},
		{"`define W 8\n `W", `1:1:12 "\n " 1:2:2! "8"`},
		{"`define W 8\n`W`W x`W", `1:1:12 "\n" 1:2:1! "8" 1:2:3! "8" 1:2:5 " x" 1:2:7! "8"`},
		{"`define W 8\na`W\nb\nc`W", `1:1:12 "\na" 1:2:2! "8" 1:2:4 "\nb\nc" 1:4:2! "8"`},
		{"`define E\na`E b", `1:1:10 "\na" 1:2:4 " b"`},
		{"`define E\n`E`E\n`E", `1:1:10 "\n" 1:2:5 "\n"`},
	} {
		mustExpand(t, x.want, x.text)
	}
}

// TestP7_1BodiesInBodies has uses within bodies: every part of a body is a
// Fixed piece.
func TestP7_1BodiesInBodies(t *testing.T) {
	const heads = "`define A 1 `B 2\n`define B <`C>\n`define C\n`define D `A\n"
	const lines = `1:1:17 "\n" 1:2:15 "\n" 1:3:10 "\n" `
	for _, x := range []struct{ line, want string }{
		{"x`A.", lines + `1:4:13 "\nx" 1:5:2! "1 " 1:5:2! "<" 1:5:2! ">" 1:5:2! " 2" 1:5:4 "."`},
		{"`B", lines + `1:4:13 "\n" 1:5:1! "<" 1:5:1! ">"`},
		{"`C", lines + `1:4:13 "\n"`},
		{" `D", lines + `1:4:13 "\n " 1:5:2! "1 " 1:5:2! "<" 1:5:2! ">" 1:5:2! " 2"`},
		{"`C`B", lines + `1:4:13 "\n" 1:5:3! "<" 1:5:3! ">"`},
	} {
		mustExpand(t, x.want, heads+x.line)
	}
	mustHaveText(t, "\n\n.8-1:0.", "`define M `W-1:0\n`define W 8\n.`M.")
	mustHaveText(t, "\n\n.8.\n\n.9.", "`define M `W\n`define W 8\n.`M.\n`define W 9\n.`M.")
}

func TestP7_1Comments(t *testing.T) {
	for _, x := range []struct{ text, want string }{
		{"//", `1:1:1 "  "`},
		{"// a\n", `1:1:1 "    \n"`},
		{"a// b\nc//", `1:1:1 "a    \nc  "`},
		{"a /* b */ c", `1:1:1 "a         c"`},
		{"/**/", `1:1:1 "    "`},
		{"/***/", `1:1:1 "     "`},
		{"/*/*/", `1:1:1 "     "`},
		{"/*/ x*/y", `1:1:1 "       y"`},
		{"a/* b\n\nc */d", `1:1:1 "a    \n\n    d"`},
		{"/*a*//*b*/c", `1:1:1 "          c"`},
		{"/*a*///b\nc", `1:1:1 "        \nc"`},
		{"// /* a\nb */", `1:1:1 "       \nb */"`},
		{"/* // */a", `1:1:1 "        a"`},
		{"/* // a\n*/b", `1:1:1 "       \n  b"`},
		{"// a // b\nc", `1:1:1 "         \nc"`},
		{"///* a\nb", `1:1:1 "      \nb"`},
		{"/* /* */ a", `1:1:1 "         a"`},
		{"a / b * c */ d", `1:1:1 "a / b * c */ d"`},
		{"/ /a/\n/b", `1:1:1 "/ /a/\n/b"`},
		{"a//\t\r\xff\x00é\r\nb", `1:1:1 "a         \nb"`},
		{"\"//\"", `1:1:1 "\"   "`},
		{"// `X `\n/* `define 9\n`endif */", `1:1:1 "       \n            \n         "`},
		{"/* c */ `define W 8 // w\n`W", `1:1:25 "\n" 1:2:1! "8"`},
		{"/* c\n*/`define W 8\n`W", `1:1:1 "    \n" 1:2:14 "\n" 1:3:1! "8"`},
		{"`define/**/W/**/8/**/9/*\n*/`W", `1:1:25 "\n  " 1:2:3! "8    9"`},
		{"`define W /* none */\na`W`W", `1:1:21 "\na"`},
		{"`define S /\n`S/ x", `1:1:12 "\n" 1:2:1! "/" 1:2:3 "/ x"`},
		{"`ifdef X // `endif\n/* `else\n*/`else// else\nb\n`endif/*\n*/c", `1:3:15 "\nb\n" 1:5:9 "\n  c"`},
		{"`ifdef X\n/*\n`endif\n*/`endif\na", `1:4:9 "\na"`},
	} {
		mustExpand(t, x.want, x.text)
	}
}

func TestP7_1DefineAndUndef(t *testing.T) {
	longest := strings.Repeat("N", api.MaxName)
	for _, x := range []struct{ text, want string }{
		{"`define A 1\n`A", "\n1"},
		{"`define\tA\r1 2\t3 \r\t\n`A", "\n1 2\t3"},
		{" \t\r`define  \tA  \t 1\n`A", "\n1"},
		{"`define A 1\r\n`A\r\n", "\n1\r\n"},
		{"`define A\n.`A.", "\n.."},
		{"`define A \n.`A.", "\n.."},
		{"`define A\t\r\n.`A.", "\n.."},
		{"`define A 1\n`define A 2\n`A", "\n\n2"},
		{"`define A 1\n`A\n`define A 2\n`A\n`define A\n.`A.", "\n1\n\n2\n\n.."},
		{"`undef A\n", "\n"},
		{"`define A 1\n`undef A\n`define A 2\n`A", "\n\n\n2"},
		{"`define A `B\n`define B 2\n`A", "\n\n2"},
		{"`define A `\n`define B `9\n`define C ``C\nx", "\n\n\nx"},
		{"`define a 1\n`define A 2\n`a`A", "\n\n12"},
		{"`define _ 1\n`define _9z 2\n`define z_9 3\n`_ `_9z `z_9", "\n\n\n1 2 3"},
		{"`define A 1\n`define AB 2\n`A `AB `A+`AB-`A.`A(`A)", "\n\n1 2 1+2-1.1(1)"},
		{"`define A 1\n`Aé`A\x00`A`A$`A\"", "\n1é1\x0011$1\""},
		{"`define " + longest + " 1\n`" + longest + "\n`undef " + longest + "\n`ifdef " + longest + "\n`endif", "\n1\n\n"},
		{"`define A (x) \"y\" 'z' \\\n`A", "\n(x) \"y\" 'z' \\"},
		{"`define A `define B\n`define define 1\n`define B 2\n.`A", "\n\n\n.1 B"},
		{"`define define 1\n`define else 2\n`define endif 3\n.`define `else `endif", "\n\n\n.1 2 3"},
		{"`define defines 1\n`define elsewhere 2\n`define endif_ 3\n`defines\n`elsewhere\n `endif_", "\n\n\n1\n2\n 3"},
		{"`define Define 1\n`define ENDIF 2\n`Define `ENDIF\n`ENDIF", "\n\n1 2\n2"},
	} {
		mustHaveText(t, x.want, x.text)
	}
}

func TestP7_1Conditions(t *testing.T) {
	for _, x := range []struct{ text, want string }{
		{"`ifdef A\nx\n`else\ny\n`endif\nz", `1:3:6 "\ny\n" 1:5:7 "\nz"`},
		{"`ifndef A\nx\n`else\ny\n`endif\nz", `1:1:10 "\nx\n" 1:5:7 "\nz"`},
		{"`define A\n`ifdef A\nx\n`else\ny\n`endif\nz", `1:1:10 "\n" 1:2:9 "\nx\n" 1:6:7 "\nz"`},
		{"`define A\n`ifndef A\nx\n`else\ny\n`endif\nz", `1:1:10 "\n" 1:4:6 "\ny\n" 1:6:7 "\nz"`},
		{"`ifdef A\n`endif", ""},
		{"`ifdef A\n`endif\n", `1:2:7 "\n"`},
		{"`ifndef A\n`endif\n", `1:1:10 "\n" 1:2:7 "\n"`},
		{"`ifdef A\n`else\n`endif\n", `1:2:6 "\n" 1:3:7 "\n"`},
		{"a\n \t`ifdef \t A\t\r\n b\n  `else \t\n c\n  `endif\r\nd", `1:1:1 "a\n" 1:4:10 "\n c\n" 1:6:10 "\nd"`},
		{"`ifndef A\n`define A\n`else\nx\n`endif\n`ifdef A\ny\n`endif", `1:1:10 "\n" 1:2:10 "\n" 1:5:7 "\n" 1:6:9 "\ny\n"`},
		{"`ifdef A\n`define B\n`endif\n`ifdef B\nx\n`endif\ny", `1:3:7 "\n" 1:6:7 "\ny"`},
		{"`define A\n`ifdef A\n`undef A\n`else\nx\n`endif\n`ifdef A\ny\n`endif", `1:1:10 "\n" 1:2:9 "\n" 1:3:9 "\n" 1:6:7 "\n"`},
		{"`ifdef ifdef\nx\n`endif\ny", `1:3:7 "\ny"`},
	} {
		mustExpand(t, x.want, x.text)
	}
}

// TestP7_1NestedConditions has a block within each part of another one, for all
// combinations of what is defined.
func TestP7_1NestedConditions(t *testing.T) {
	inner := func(name string) string { return "`ifdef B\n" + name + "1\n`else\n" + name + "2\n`endif\n" }
	text := "`ifndef A\n" + inner("n") + "`else\n" + inner("y") + "`endif\nz\n"
	for heads, want := range map[string]string{
		"": "n2 z", "`define B\n": "n1 z", "`define A\n": "y2 z", "`define A\n`define B\n": "y1 z",
	} {
		pieces, _, err := pre.Expand(table(t, heads+text), "a")
		if got := strings.Join(strings.Fields(textOf(pieces)), " "); got != want || err != api.OK {
			t.Errorf("P7.1: after %q: %q, error %d", heads, got, err)
		}
	}
}

// TestP7_1InactiveLines has lines that would be errors or would have an effect,
// were they active.
func TestP7_1InactiveLines(t *testing.T) {
	for _, line := range []string{
		"`", "`9", "`X", "x `X", "` endif", "x `endif", "`define", "`define 9", "`define Y 1", "`undef", "`undef Z", "`undef 9",
		"`include", "`include \"nowhere\"", "`include \"a\"", "`include x", "`endif_", "`elsewhere", "`ifdefs", "`endif9 x",
		"`" + strings.Repeat("N", api.MaxName+1), "`Endif", "'endif", "x `else", "\"", "//", "/* */ x", "\v`endif", "`\xffendif",
	} {
		const heads, tail = "`define Z 3\n", "`endif\n`ifdef Y\ny\n`else\n.`Z\n`endif"
		mustHaveText(t, "\n\n\n.3\n", heads+"`ifdef X\n"+line+"\n"+tail)
		mustHaveText(t, "\n\n\n\n.3\n", heads+"`ifndef X\n`else\n"+line+"\n"+tail)
		mustHaveText(t, "\n\n\n.3\n", heads+"`ifdef X\n`ifndef X\n"+line+"\n`else\n"+line+"\n`endif\n"+tail)
	}
}

func TestP7_1Include(t *testing.T) {
	for _, x := range []struct {
		texts []string
		want  string
	}{
		{[]string{"`include \"b\"", "x"}, `2:1:1 "x"`},
		{[]string{"`include \"b\"\ny", "x\n"}, `2:1:1 "x\n" 1:1:13 "\ny"`},
		{[]string{"a\n`include \"b\"\nb\n`include \"b\"\n", "x"}, `1:1:1 "a\n" 2:1:1 "x" 1:2:13 "\nb\n" 2:1:1 "x" 1:4:13 "\n"`},
		{[]string{"`include\"b\"", "x"}, `2:1:1 "x"`},
		{[]string{" \t`include \t\r \"b\" \t\r\n", "x"}, `2:1:1 "x" 1:1:21 "\n"`},
		{[]string{"/**/`include/* */\"b\"// c", "x"}, `2:1:1 "x"`},
		{[]string{"`include \"b\"\n`include \"b\"", ""}, `1:1:13 "\n"`},
		{[]string{"`include \"b\"", "`include \"c\"\n", "x"}, `3:1:1 "x" 2:1:13 "\n"`},
		{[]string{"`include \"b\"\n`W", "`define W 8"}, `1:1:13 "\n" 1:2:1! "8"`},
		{[]string{"`define W 8\n`include \"b\"", "`W\n`undef W"}, `1:1:12 "\n" 2:1:1! "8" 2:1:3 "\n"`},
		{[]string{"`define W 8\n`include \"b\"\n`ifdef W\nx\n`endif", "`undef W"}, `1:1:12 "\n" 1:2:13 "\n"`},
		{[]string{"`ifdef X\n`include \"b\"\n`else\ny\n`endif", "x"}, `1:3:6 "\ny\n"`},
		{[]string{"`ifndef X\n`include \"b\"\n`else\ny\n`endif", "`ifdef X\n`else\nx\n`endif"}, `1:1:10 "\n" 2:2:6 "\nx\n" 1:2:13 "\n"`},
		{[]string{"`include \"b\"\n`include \"b\"\n", "`ifndef G\n`define G\nx\n`endif\n"}, `2:1:10 "\n" 2:2:10 "\nx\n" 2:4:7 "\n" 1:1:13 "\n" 2:4:7 "\n" 1:2:13 "\n"`},
		{[]string{"`ifndef G\n`define G\n`include \"a\"\n`endif"}, `1:1:10 "\n" 1:2:10 "\n" 1:3:13 "\n"`},
	} {
		mustExpand(t, x.want, x.texts...)
	}
}

// TestP7_1Top expands files other than the first one, by their names.
func TestP7_1Top(t *testing.T) {
	x, err := src.New(src.File{Name: "t.v", Text: "`include \"d-e_f.9\"\n"}, src.File{Name: "d-e_f.9", Text: "x"}, src.File{Name: "T.v"})
	if err != api.OK {
		t.Fatalf("New: error %d", err)
	}
	for name, want := range map[string]string{"t.v": `2:1:1 "x" 1:1:19 "\n"`, "d-e_f.9": `2:1:1 "x"`, "T.v": ""} {
		if pieces, pos, err := pre.Expand(x, name); show(pieces) != want || pos != (api.Pos{}) || err != api.OK {
			t.Errorf("P7.1: Expand(%q): %s, error %d", name, show(pieces), err)
		}
	}
	for _, name := range []string{"", "t", "t.v ", "T.V", "\"t.v\"", "1", "t.v\x00", "\xff", strings.Repeat("x", 1000)} {
		if pieces, pos, err := pre.Expand(x, name); pieces != nil || pos != (api.Pos{}) || err != api.ErrName {
			t.Errorf("P7.1: Expand(%q): %s, error %d at %s", name, show(pieces), err, showPos(pos))
		}
	}
	if pieces, pos, err := pre.Expand(table(t), "a"); pieces != nil || pos != (api.Pos{}) || err != api.ErrName {
		t.Errorf("P7.1: without files: %s, error %d at %s", show(pieces), err, showPos(pos))
	}
}

// TestP7_1NothingIsKept calls Expand again after a call that defines names, and
// after its result has been overwritten.
func TestP7_1NothingIsKept(t *testing.T) {
	x := table(t, "`ifdef A\nx\n`endif\n`define A 1\ny `A", "`ifdef A\nx\n`endif\n`A")
	first, _, _ := pre.Expand(x, "a")
	want := slices.Clone(first)
	clear(first)
	if second, _, err := pre.Expand(x, "a"); !slices.Equal(second, want) || err != api.OK {
		t.Errorf("P7.1: the second call: %s, error %d", show(second), err)
	}
	if _, pos, err := pre.Expand(x, "b"); err != api.ErrName || showPos(pos) != "2:4:1" {
		t.Errorf("P7.1: after another file: error %d at %s", err, showPos(pos))
	}
}
