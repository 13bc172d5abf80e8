package tool_test

import (
	"fmt"
	"strings"
	"testing"

	"sluicegate/api"
	"sluicegate/elab"
	"sluicegate/flat"
	"sluicegate/lex"
	"sluicegate/parse"
	"sluicegate/pre"
	"sluicegate/src"
	"sluicegate/tool"
)

const small = "module top (input clk, input a, output reg q); always @(posedge clk) begin q <= a; p: assert (!q); end endmodule"

// mustReject fails unless Design, Run and Replay return an error line and nothing else.
func mustReject(t *testing.T, files []src.File, file, top, want string) {
	t.Helper()
	short := show(files)
	short = short[:min(len(short), 300)]
	if d, line := tool.Design(files, file, top); line != want || show(d) != show(flat.Design{}) {
		t.Errorf("P27.1: %q and %d signals, not %q: %s", line, len(d.Sigs), want, short)
	}
	for _, bound := range []int{0, 1, 12} {
		if r := tool.Run(files, file, top, bound, 100); joined(r.Lines) != want {
			t.Errorf("P27.1: %q, not %q: %s", r.Lines, want, short)
		} else {
			mustHaveNoDump(t, r)
		}
	}
	for _, dump := range []string{"", "$timescale $end $scope module m $end $upscope $end $enddefinitions $end"} {
		if lines := tool.Replay(files, file, top, dump, 1); joined(lines) != want {
			t.Errorf("P27.3: %q, not %q: %s", lines, want, short)
		}
	}
}

// several returns the file t.v and others, so that there are so many.
func several(count int, text string) []src.File {
	files := one(text)
	for i := range count - 1 {
		files = append(files, src.File{Name: fmt.Sprint(i)})
	}
	return files
}

// TestP27_1Files: the errors of layer 6, which come before all others.
func TestP27_1Files(t *testing.T) {
	long := strings.Repeat("n", 40)
	twice := []src.File{{Name: "t.v", Text: small}, {Name: "b"}, {Name: "b"}}
	full := small + strings.Repeat("\n", api.MaxSource-len(small))
	for _, files := range [][]src.File{several(16, small), one(full), {{Name: long}, {Name: "t.v", Text: small}}, {{Name: "a", Text: "`x"}, {Name: "t.v", Text: small}}} {
		if d, line := tool.Design(files, "t.v", "top"); line != "" || len(d.Sigs) != 2 {
			t.Errorf("P27.1: %s", line)
		}
	}
	mustReject(t, several(17, small), "t.v", "top", "error 19")
	mustReject(t, several(17, "`"), "t.v", "top", "error 19")
	mustReject(t, append(several(16, small), src.File{Name: "t.v"}), "t.v", "top", "error 19")
	mustReject(t, append(several(16, small), src.File{}), "t.v", "top", "error 19")
	mustReject(t, twice, "t.v", "top", "error 10")
	mustReject(t, append(twice, src.File{Name: "/"}), "t.v", "top", "error 9")
	mustReject(t, append(twice, src.File{Name: "c", Text: full}), "t.v", "top", "error 10")
	for _, name := range []string{"", long + "n", "a b", "t/v", "é", "\n", "a:1"} {
		mustReject(t, []src.File{{Name: name, Text: small}}, name, "top", "error 9")
		mustReject(t, append(one(full), src.File{Name: name, Text: " "}), "t.v", "top", "error 9")
	}
	mustReject(t, one(full+"\n"), "t.v", "top", "error 4")
	mustReject(t, append(one(full), src.File{Name: "b", Text: "\n"}), "t.v", "top", "error 4")
	mustReject(t, append(one(full), src.File{Name: "b", Text: "\n"}), "none", "none", "error 4")
	mustReject(t, one("`"+strings.Repeat("\n", api.MaxSource)), "t.v", "top", "error 4")
}

// TestP27_1NoPosition: there is no such file, and no such module.
func TestP27_1NoPosition(t *testing.T) {
	mustReject(t, nil, "t.v", "top", "error 9")
	mustReject(t, nil, "", "", "error 9")
	for _, file := range []string{"", "t", "t.V", "u.v", "t.v ", "./t.v"} {
		mustReject(t, one(small), file, "top", "error 9")
		mustReject(t, one("`"), file, "top", "error 9")
	}
	for _, top := range []string{"", "to", "Top", "top ", "a", "clk", "module"} {
		mustReject(t, one(small), "t.v", top, "error 9")
	}
	for _, text := range []string{"", "\n", "// top", "`define top module top (); endmodule", "`ifdef a\n" + small + "\n`endif"} {
		mustReject(t, one(text), "t.v", "top", "error 9")
	}
	if _, line := tool.Design(one("module a (); b x (); endmodule module b (output y); assign y = 1; endmodule"), "t.v", "b"); line != "" {
		t.Errorf("P27.1: %s", line)
	}
}

// TestP27_1Positions: errors of each layer, in files and in what is included.
func TestP27_1Positions(t *testing.T) {
	body := func(text string) string {
		return "module top (input clk, input a, output y);\n" + text + "\nendmodule\n"
	}
	for _, x := range []struct{ text, want string }{
		{"`\n", "1:1: error 5"}, {"\n `none", "2:2: error 9"}, {"x /*", "1:3: error 6"}, {"\n\n`ifdef a", "3:1: error 6"}, {"`endif", "1:1: error 5"}, {"`define a `a\n  `a", "2:3: error 8"}, {"`include \"none\"", "1:1: error 9"},
		{"é", "1:1: error 7"}, {"module\n 4'x", "2:2: error 7"}, {" $", "1:2: error 9"}, {strings.Repeat("n", 41), "1:1: error 9"}, {strings.Repeat(";", 12001), "1:12001: error 19"},
		{"top", "1:1: error 5"}, {"module\ntop (\n  1", "3:3: error 5"}, {"module\n top", "2:2: error 6"}, {strings.Repeat(small+"\n", 2), "2:1: error 10"},
		{body("assign y = " + strings.Repeat("(", 40) + "a" + strings.Repeat(")", 40) + ";"), "2:51: error 8"},
		{body(" assign y = z;"), "2:13: error 9"}, {body("wire a;"), "2:1: error 10"}, {body("assign y = 1 ? a : clk;"), "2:20: error 9"}, {body("reg [0:1] z;"), "2:1: error 3"},
		{body("assign y = 1 ? a : a[clk];"), "2:22: error 9"}, {body("assign y = 1;\n assign y = a;"), "3:2: error 14"}, {body(""), "1:33: error 14"}, {body("wire [a:0] z;"), "2:7: error 9"},
		{body("reg z; always @* if (a) z = 1; assign y = z;"), "2:8: error 16"}, {body("assign\ny = ~y;"), "2:1: error 15"}, {body("integer i; always @(posedge clk) for (i = 0; i < 65; i = i + 1) ;"), "2:34: error 19"},
		{body("sub u (.a(a), .b(a));"), "2:1: error 9"}, {body("top u (.a(a), .b(a));"), "2:15: error 13"}, {body("always @(posedge a) ;"), "2:1: error 11"}, {body("assign a = 1;"), "2:8: error 14"},
	} {
		mustReject(t, one(x.text), "t.v", "top", "t.v:"+x.want)
		mustReject(t, []src.File{{Name: "a", Text: small}, {Name: "t-_1.v", Text: x.text}}, "t-_1.v", "top", "t-_1.v:"+x.want)
		files := []src.File{{Name: "main", Text: "\n\n`include \"inner.v\""}, {Name: "in", Text: x.text}, {Name: "inner.v", Text: "`include \"in\"\n"}}
		mustReject(t, files, "main", "top", "in:"+x.want)
	}
	files := []src.File{{Name: "a", Text: "`define X q <= z\n`define Y `X;"}, {Name: "b", Text: "`include \"a\"\nmodule top (input clk, output reg q);\nalways @(posedge clk) `Y\nendmodule"}}
	mustReject(t, files, "b", "top", "b:3:23: error 9")
	files[0].Text = "`define X q <= z\n`define Y `Z;"
	mustReject(t, files, "b", "top", "b:3:23: error 9")
	files[0].Text = "`define Y q <= 4'x;"
	mustReject(t, files, "b", "top", "b:3:23: error 7")
	files[0].Text = "`define Y q <= q;\n`Y"
	mustReject(t, files, "b", "top", "a:2:1: error 5")
}

// TestP27_1Order: an error of a layer comes before all errors of higher layers, wherever
// they are.
func TestP27_1Order(t *testing.T) {
	const file, macro, word, form, name, loop = "\n`include \"none\"", "\n`none", "\né", "\nmodule x (;\n", "module top (output y); assign y = z; endmodule ", "module top (output y); assign y = y; endmodule "
	mustReject(t, one(loop), "t.v", "top", "t.v:1:24: error 15")
	mustReject(t, one("module a (); b u (); endmodule "+loop), "t.v", "top", "t.v:1:55: error 15")
	mustReject(t, one("module top (output y); assign y = y; assign z = 1; endmodule"), "t.v", "top", "t.v:1:45: error 9")
	mustReject(t, one(name+form), "t.v", "top", "t.v:2:11: error 5")
	mustReject(t, one(name+form), "t.v", "none", "t.v:2:11: error 5")
	mustReject(t, one(form+word), "t.v", "top", "t.v:4:1: error 7")
	mustReject(t, one(form+word+macro), "t.v", "top", "t.v:5:1: error 9")
	mustReject(t, one(form+word+file+macro), "t.v", "top", "t.v:5:1: error 9")
	mustReject(t, one(form+word+macro+"/*"), "t.v", "top", "t.v:5:6: error 6")
	mustReject(t, append(one(form+word+macro+"/*"), src.File{Name: "t.v"}), "t.v", "top", "error 10")
}

// TestP27_1Design: the design is that of the layers.
func TestP27_1Design(t *testing.T) {
	pick := chooser(27, 6)
	for range 100 {
		text := anyMachine(pick).text
		table, _ := src.New(one(text)...)
		pieces, _, _ := pre.Expand(table, "t.v")
		tokens, _, _ := lex.Lex(pieces...)
		mods, _, _ := parse.Parse(tokens...)
		want, _, err := elab.Elaborate(mods, "top")
		if got := mustDesign(t, text); show(got) != show(want) || err != api.OK {
			t.Fatalf("P27.1: %s, not %s: %s", flat.Text(got), flat.Text(want), text)
		}
	}
	d := mustDesign(t, "\n"+small)
	places := []api.Pos{{File: 1, Line: 2, Col: 24}, {File: 1, Line: 2, Col: 33}, {File: 1, Line: 2, Col: 48}}
	if d.Places[0] != places[0] || d.Places[1] != places[1] || d.Procs[0].Pos != places[2] {
		t.Errorf("P27.1: %v, %v", d.Places, d.Procs[0].Pos)
	}
	if d, line := tool.Design(one("module top (); endmodule"), "t.v", "top"); line != "" || len(d.Sigs)+len(d.Procs)+len(d.Asserts) != 0 {
		t.Errorf("P27.1: %s, %v", line, d)
	}
}
