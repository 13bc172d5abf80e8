package pre_test

import (
	"strconv"
	"strings"
	"testing"

	"sluicegate/api"
)

func TestP7_1FormOfDirectives(t *testing.T) {
	long := strings.Repeat("N", api.MaxName+1)
	for _, line := range []string{
		"`define", "`define ", "`define\t\r", "`define 9", "`define 9A 1", "`define +", "`define A+1", "`define A(x) x", "`define A,", "`define A\"\"",
		"`define A`B", "`define `A 1", "`define\"A\"", "`define.A", "`define A\v1", "`define \vA 1", "`define Aé", "`define é", "`define A\x00", "`define A$ 1",
		"`define " + long, "`define " + long + " 1",
		"`undef", "`undef ", "`undef 9", "`undef A B", "`undef A+", "`undef A,", "`undef \"A\"", "`undef `A", "`undef " + long, "`undef\x00",
		"`include", "`include ", "`include b", "`include \"", "`include \"b", "`include b\"", "`include \"b\" x", "`include \"b\"\"", "`include \"b\" \"b\"",
		"`include x \"b\"", "`include 'b'", "`include <b>", "`include `B", "`include \"b\";", "`include \"b//\"", "`include \"/*\n*/b\"", "`include\v\"b\"", "`include\"b\"\v",
		"`else x", "`else `endif", "`elseé", "`else;", "`endif x", "`endif A", "`endif;", "`endif `endif", "`endif\v", "`else", "`endif", "`else \t\r", " `endif\n",
	} {
		mustReject(t, api.ErrForm, "1:1:"+indent(line), line, "")
		mustReject(t, api.ErrForm, "2:3:"+indent(line), "`define B\n`include \"b\"", "a\n`B\n"+line+"\n`X")
	}
	for _, line := range []string{
		"`ifdef", "`ifndef ", "`ifdef 9", "`ifndef A B", "`ifdef A+", "`ifdef !A", "`ifndef \"A\"", "`ifdef `A", "`ifdef A`endif", "`ifndef " + long, "`ifdef\x00A",
		"`else x", "`else `endif", "`else;", "`elseé", "`endif x", "`endif`", "`endif\v",
	} {
		for _, active := range []string{"ifdef", "ifndef"} {
			mustReject(t, api.ErrForm, "1:2:2", "`"+active+" X\n "+line+"\n`endif\n`X")
			mustReject(t, api.ErrForm, "1:3:2", "`ifdef X\n`"+active+" X\n "+line+"\n`endif\n`endif\n`X")
		}
	}
}

// indent returns the column of the first byte that is not a blank.
func indent(line string) string {
	return strconv.Itoa(1 + len(line) - len(strings.TrimLeft(line, " \t\r")))
}

func TestP7_1ElseAndEndif(t *testing.T) {
	mustReject(t, api.ErrForm, "1:4:2", "`ifdef A\n`else\nx\n `else\n`endif")
	mustReject(t, api.ErrForm, "1:4:1", "`ifndef A\n`else\nx\n`else\n`endif")
	mustReject(t, api.ErrForm, "1:5:1", "`ifndef A\n`else\n`ifdef A\n`else\n`else\n`endif\n`endif")
	mustReject(t, api.ErrForm, "1:6:1", "`ifndef A\n`else\n`ifdef A\n`else\n`endif\n`else\n`endif")
	mustReject(t, api.ErrForm, "1:3:1", "`ifdef A\n`endif\n`endif")
	mustReject(t, api.ErrForm, "1:3:1", "`ifdef A\n`endif\n`else")
	mustReject(t, api.ErrForm, "2:1:1", "`ifndef A\n`include \"b\"\n`endif", "`endif")
	mustReject(t, api.ErrForm, "2:1:1", "`ifndef A\n`include \"b\"\n`endif", "`else")
	mustReject(t, api.ErrEnd, "2:2:3", "`include \"b\"\n`endif", "\n  `ifdef A\n")
}

func TestP7_1BackquotesWithoutNames(t *testing.T) {
	long := strings.Repeat("N", api.MaxName+1)
	for _, after := range []string{"", " ", "\n", " A", "9", "9A", "`A", "`", "+", "é", "\x00", "\v", "\"\"", "$A", " define A", "\tendif", "//", "/**/A", long, long + "9", "define" + long} {
		mustReject(t, api.ErrForm, "1:2:1", "`define A 1\n`"+after)
		mustReject(t, api.ErrForm, "1:2:7", "`define A 1\nx `A  `"+after)
		if !strings.Contains(after, "\n") {
			mustReject(t, api.ErrForm, "1:3:2", "`define B 2 `A `"+after+"\n`define A 1\n.`B")
			mustReject(t, api.ErrForm, "1:4:3", "`define B `"+after+"\n`define A `B\n`define C .`A\n..`C `X")
		}
	}
}

func TestP7_1Undefined(t *testing.T) {
	longest := strings.Repeat("N", api.MaxName)
	for _, name := range []string{"A", "_", "a9", "Defined_", "defined", "x", longest} {
		const heads = "`define Defined 1\n`define X 1\n"
		mustReject(t, api.ErrName, "1:3:1", heads+"`"+name)
		mustReject(t, api.ErrName, "1:4:12", heads+"\n `Defined x`"+name+" `")
		mustReject(t, api.ErrName, "1:4:2", heads+"`define D 1 `X `"+name+" `\n `D")
		mustReject(t, api.ErrName, "1:5:3", heads+"`define D `"+name+"\n`define E .`D\n  `E")
		mustReject(t, api.ErrName, "1:5:1", heads+"`define "+name+" 1\n`undef "+name+"\n`"+name)
		mustReject(t, api.ErrName, "2:1:1", heads+"`include \"b\"\n`define "+name+" 1", "`"+name)
		mustHaveText(t, "\n\n\n.", heads+"`undef "+name+"\n.")
	}
	mustReject(t, api.ErrName, "1:3:1", "`define A `B\n`define B `C\n`A")
	mustReject(t, api.ErrName, "1:5:1", "`define A `B\n`define B 1\n`A\n`undef B\n`A")
	mustReject(t, api.ErrName, "1:1:3", "a `define A 1")
	mustReject(t, api.ErrName, "1:1:3", "a `endif")
	mustReject(t, api.ErrName, "1:2:2", "`define A `endif\n `A")
	for _, name := range []string{"", " ", "c", "A", " a", "a ", "a b", "'", "`", "`X", "\\", "\x00\xff", strings.Repeat("a", 100)} {
		mustReject(t, api.ErrName, "1:2:2", "x\n `include \""+name+"\"\n`", "")
		mustReject(t, api.ErrName, "2:1:1", "`include \"b\"", "`include \""+name+"\"\n`")
	}
	mustReject(t, api.ErrName, "1:1:1", "`include \"/* */\"")
}

func TestP7_1WithoutAnEnd(t *testing.T) {
	mustReject(t, api.ErrEnd, "1:2:1", "a\n/* b")
	for _, text := range []string{"/*", "/*/", "/* *", "/* * /", "/*\n\n", "/* //", "/* /*", "/* `endif"} {
		mustReject(t, api.ErrEnd, "1:1:1", text)
		mustReject(t, api.ErrEnd, "1:4:2", "`\n`X\n// */\nx"+text)
	}
	mustReject(t, api.ErrEnd, "1:2:2", "// /*\n*/*")
	mustReject(t, api.ErrEnd, "1:1:5", "/**//*")
	mustReject(t, api.ErrEnd, "1:1:6", "/**/ /* // ")
	mustReject(t, api.ErrEnd, "1:1:2", " `ifdef A\n")
	mustReject(t, api.ErrEnd, "1:1:2", " `ifndef A")
	mustReject(t, api.ErrEnd, "1:1:1", "`ifdef A\n`else\n")
	mustReject(t, api.ErrEnd, "1:2:3", "`ifdef A\n  `ifdef B\n")
	mustReject(t, api.ErrEnd, "1:4:1", "`ifndef A\n`ifdef B\n`endif\n`ifndef C\n`else\nx")
	mustReject(t, api.ErrEnd, "1:1:1", "`ifndef A\n`ifdef B\n`endif\n`ifdef C\n`endif\nx")
	mustReject(t, api.ErrEnd, "2:1:1", "`ifndef A\n`include \"b\"\n`endif", "`ifndef B")
	mustReject(t, api.ErrEnd, "1:1:1", "`ifndef A\n`include \"b\"", "`ifndef B\n`endif")
}

// TestP7_1FirstError has several errors in a text.
func TestP7_1FirstError(t *testing.T) {
	mustReject(t, api.ErrEnd, "1:3:1", "`\n`else\n/*")
	mustReject(t, api.ErrEnd, "1:4:1", "`include \"c\"\n`ifdef A\n\n/*")
	mustReject(t, api.ErrEnd, "1:2:1", "`include \"b\"\n/*", "/*")
	mustReject(t, api.ErrEnd, "2:1:3", "`include \"b\"\n`", "x /*")
	mustReject(t, api.ErrName, "1:1:1", "`X\n`include \"b\"\n", "/*")
	mustReject(t, api.ErrName, "1:1:3", "x `X `")
	mustReject(t, api.ErrForm, "1:1:3", "x ` `X")
	mustReject(t, api.ErrName, "1:2:1", "`ifndef A\n`X\n`endif x")
	mustReject(t, api.ErrForm, "1:2:1", "`ifndef A\n`endif x\n`X")
	mustReject(t, api.ErrForm, "1:3:1", "`ifdef A\n`X\n`endif x\n`X")
	mustReject(t, api.ErrName, "1:2:1", "`ifndef A\n`X\n")
	mustReject(t, api.ErrForm, "2:2:1", "`include \"b\"\n`X", "\n`\n`X")
	mustReject(t, api.ErrName, "1:2:1", "`define D `X `\n`D `")
	mustReject(t, api.ErrForm, "1:2:1", "`define D ` `X\n`D `X")
	mustReject(t, api.ErrForm, "1:3:2", "`define D `E `X\n`define E `\n `D `X")
}

// chain returns files that include each other one after the other.
func chain(count int, last string) []string {
	var texts []string
	for i := range count - 1 {
		texts = append(texts, " `include \""+string(rune('b'+i))+"\"\n"+string(rune('a'+i)))
	}
	return append(texts, last)
}

func TestP7_1NestedFiles(t *testing.T) {
	mustHaveText(t, "x", chain(1, "x")...)
	mustHaveText(t, "x\na", chain(2, "x")...)
	mustHaveText(t, "x\ng\nf\ne\nd\nc\nb\na", chain(8, "x")...)
	mustReject(t, api.ErrDeep, "8:1:2", chain(9, "x")...)
	mustReject(t, api.ErrDeep, "8:1:2", chain(16, "x")...)
	mustReject(t, api.ErrDeep, "8:1:2", chain(9, "/*")...)
	mustReject(t, api.ErrDeep, "8:2:1", chain(8, "x\n`include \"a\"")...)
	mustReject(t, api.ErrDeep, "8:1:1", chain(8, "`include \"h\"")...)
	mustReject(t, api.ErrName, "8:2:1", chain(8, "x\n`include \"z\"")...)
	mustReject(t, api.ErrName, "7:2:1", chain(7, "x\n`include \"z\"")...)
	mustReject(t, api.ErrForm, "8:2:1", chain(8, "x\n`include \"z")...)
	mustReject(t, api.ErrEnd, "8:2:1", chain(8, "x\n/*")...)
	mustReject(t, api.ErrDeep, "1:1:1", "`include \"a\"")
	mustReject(t, api.ErrDeep, "2:2:3", "`include \"b\"", "\n  `include \"a\"")
	mustReject(t, api.ErrDeep, "1:2:1", "x\n`include \"a\"\n`X")
	wide := strings.Repeat("`include \"b\"\n", 20)
	mustHaveText(t, strings.Repeat("x\n", 20), wide, "x")
}

// stack defines a NAME whose body, at the end of as many nested uses, has a last
// body.
func stack(uses int, last string) string {
	text := ""
	for i := range uses - 1 {
		text += "`define M" + strconv.Itoa(i) + " " + strconv.Itoa(i) + "`M" + strconv.Itoa(i+1) + " z\n"
	}
	return text + "`define M" + strconv.Itoa(uses-1) + " " + last + "\n"
}

func TestP7_1NestedUses(t *testing.T) {
	mustHaveText(t, "\nx", stack(1, "x")+"`M0")
	mustHaveText(t, strings.Repeat("\n", 2)+"0x z", stack(2, "x")+"`M0")
	mustHaveText(t, strings.Repeat("\n", 8)+"0123456x z z z z z z z", stack(8, "x")+"`M0")
	mustHaveText(t, strings.Repeat("\n", 8)+"0123456 z z z z z z z", stack(8, "")+"`M0")
	mustHaveText(t, strings.Repeat("\n", 9)+"1234567x z z z z z z z", stack(9, "x")+"`M1")
	mustReject(t, api.ErrDeep, "1:10:2", stack(9, "x")+" `M0")
	mustReject(t, api.ErrDeep, "1:10:2", stack(9, "")+" `M0")
	mustReject(t, api.ErrDeep, "1:10:3", stack(9, "x")+"..`M0 `X")
	mustReject(t, api.ErrDeep, "1:11:6", stack(10, "x")+" `M2 `M1 `M0")
	mustReject(t, api.ErrName, "1:9:1", stack(8, "`X")+"`M0")
	mustReject(t, api.ErrForm, "1:9:1", stack(8, "`")+"`M0")
	mustReject(t, api.ErrForm, "1:9:1", stack(8, "`9")+"`M0")
	mustReject(t, api.ErrDeep, "1:9:1", stack(8, "`M0")+"`M0")
	mustReject(t, api.ErrDeep, "1:9:1", stack(8, "`M7")+"`M0")
	mustReject(t, api.ErrDeep, "1:3:2", "`define A `A\n\n `A")
	mustReject(t, api.ErrDeep, "1:3:1", "`define A x`B\n`define B y`A\n`A")
	mustReject(t, api.ErrName, "1:2:1", "`define A `X`A\n`A")
	mustReject(t, api.ErrDeep, "1:2:1", "`define A `A`X\n`A")
	mustHaveText(t, "\nx", "`define A `A\nx")
}

// TestP7_1UsesAndFiles has nested uses within nested files, which are counted
// apart.
func TestP7_1UsesAndFiles(t *testing.T) {
	texts := chain(8, "`M0")
	texts[0] = stack(8, "x") + texts[0]
	mustHaveText(t, strings.Repeat("\n", 8)+"0123456x z z z z z z z\ng\nf\ne\nd\nc\nb\na", texts...)
}
