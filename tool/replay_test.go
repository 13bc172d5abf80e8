package tool_test

import (
	"fmt"
	"slices"
	"strings"
	"testing"

	"sluicegate/tool"
)

// dumpOf returns a dump of a witness of counter: in each cycle, which it has so many of,
// q is what it was before plus 1.
func dumpOf(assert, first string, cycles int) string {
	text := "$timescale 1 ns $end $scope module witness $end $var wire 16 ! assert $end $var wire 2 \" start.q $end $upscope $end $enddefinitions $end\n"
	for i := range cycles {
		text += fmt.Sprintf("#%d\n", i)
		if i == 0 {
			text += "b" + assert + " !\nb" + first + " \"\n"
		}
	}
	return text
}

// mustReplay fails unless Replay returns these lines, with several picks.
func mustReplay(t *testing.T, text, dump, want string) {
	t.Helper()
	for _, picks := range [][]int{nil, {0}, {1, 0, -1}, {least, most, 7}} {
		before := slices.Clone(picks)
		if got := joined(tool.Replay(one(text), "t.v", "top", dump, picks...)); got != want || !slices.Equal(picks, before) {
			t.Errorf("P27.3: %s, not %s, with the picks %d", got, want, before)
		}
	}
}

// TestP27_3Lines: a line for each assertion that does not hold.
func TestP27_3Lines(t *testing.T) {
	r := mustRun(t, one(counter), "t.v", "top", 2, 1000)
	mustReplay(t, counter, r.Witness, "fails 0 p#0 / end")
	mustReplay(t, counter, dumpOf("0", "11", 1), "fails 0 p#0 / end")
	mustReplay(t, counter, dumpOf("0", "10", 1), "end")
	mustReplay(t, counter, dumpOf("0", "10", 3), "fails 1 p#0 / end")
	mustReplay(t, counter, dumpOf("0", "0", 9), "fails 3 p#0 / fails 7 p#0 / end")
	two := strings.Replace(counter, "end endmodule", "z: assert (q); assert (1); if (q == 0) assert (q == 2); end always @(posedge clk) q: assert (!q[0]); endmodule", 1)
	mustReplay(t, two, dumpOf("11", "11", 2), "fails 0 p#0 / fails 0 q#4 / fails 1 z#1 / fails 1 assert#3 / end")
	always := strings.Replace(counter, "q != 3", "0", 1)
	lines := tool.Replay(one(always), "t.v", "top", dumpOf("0", "0", 200))
	if len(lines) != 201 || lines[0] != "fails 0 p#0" || lines[199] != "fails 199 p#0" || lines[200] != "end" {
		t.Errorf("P27.3: %d lines: %s", len(lines), joined(lines))
	}
}

// TestP27_3Many: as many lines as there are assertions in all cycles.
func TestP27_3Many(t *testing.T) {
	text := strings.Replace(counter, "p: assert (q != 3);", strings.Repeat("assert (q);", 1500), 1)
	lines := tool.Replay(one(text), "t.v", "top", dumpOf("10111011011", "0", 200))
	if len(lines) != 50*1500+1 {
		t.Fatalf("P27.3: %d lines", len(lines))
	}
	for i, line := range lines[:len(lines)-1] {
		if line != fmt.Sprintf("fails %d assert#%d", i/1500*4, i%1500) {
			t.Fatalf("P27.3: line %d: %s", i, line)
		}
	}
}

// TestP27_3Errors: those of the dump, with their lines, and those of layers 18 and 26.
func TestP27_3Errors(t *testing.T) {
	good := dumpOf("0", "0", 1)
	for _, x := range []struct{ dump, want string }{
		{"", "line 1: error 6"}, {"x", "line 1: error 5"}, {"\n\n\nx", "line 4: error 5"}, {good + "#2", "line 5: error 3"}, {good + "#1\nb1 #", "line 6: error 21"}, {good + "$comment\n\n", "line 6: error 6"},
		{strings.Replace(good, "16 !", "129 !", 1), "line 1: error 2"}, {strings.Replace(good, "start.q", "assert", 1), "line 1: error 10"}, {strings.Replace(good, "start.q", "$q", 1), "line 1: error 9"},
		{dumpOf("0", "0", 201), "line 204: error 19"}, {good + strings.Repeat(" ", 1<<20-len(good)), "end"}, {good + strings.Repeat(" ", 1<<20-len(good)+1), "line 1: error 4"},
		{dumpOf("0", "0", 0), "error 3"}, {dumpOf("1", "0", 1), "error 3"}, {dumpOf("1111111111111111", "0", 1), "error 3"}, {strings.Replace(good, "witness", "signals", 1), "error 5"}, {strings.Replace(good, "start.q", "q", 1), "error 5"},
		{strings.Replace(good, "2 \"", "3 \"", 1), "error 5"}, {good + "#1 b1 \"", "error 5"}, {good + "#1 b1 !", "error 5"}, {strings.Replace(good, "$upscope", "$var wire 1 # in.a $end $upscope", 1), "error 5"},
		{good + "$comment $end #1 $comment b1 ! $end", "end"}, {good, "end"},
	} {
		mustReplay(t, counter, x.dump, x.want)
	}
	mustReplay(t, huge(), good, "error 19")
	mustReplay(t, huge(), good+"!", "line 5: error 5")
	mustReplay(t, "module top (output y); endmodule", "", "t.v:1:13: error 14")
	r := mustRun(t, one(counter), "t.v", "top", 2, 1000)
	mustReplay(t, counter, r.Signals, "error 5")
	mustReplay(t, product, r.Witness, "error 5")
}
