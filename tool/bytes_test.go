package tool_test

import (
	"strings"
	"testing"

	"sluicegate/sample"
	"sluicegate/src"
	"sluicegate/tool"
)

// anyText returns bytes: any ones, words that sources have, or a source of which some
// bytes are other ones.
func anyText(pick sample.Choice) string {
	words := strings.Fields("module top ( ) ; input output reg wire clk a b y q [ 3 : 0 ] assign always @ posedge begin end if else case endcase default for integer genvar function endfunction endmodule = <= + - * / % << >>> ? & | ^ ~ ! , . # { } 4'd3 assert localparam parameter $signed `define `include `ifdef `else `endif `a \"t.v\" \"b\" // /* */ \n")
	var text strings.Builder
	switch pick(6) {
	case 0:
		for range pick(60) {
			text.WriteByte(byte(pick(256)))
		}
		return text.String()
	case 1:
		for range pick(60) {
			text.WriteString(words[pick(len(words))] + []string{" ", " ", "\n", ""}[pick(4)])
		}
		return text.String()
	}
	source := known[pick(len(known))].text
	if pick(2) == 0 {
		source = anyMachine(pick).text
	}
	bytes := []byte(source)
	for range 1 + pick(3) {
		at := pick(len(bytes))
		if pick(3) > 0 {
			alike(pick, bytes)
			continue
		}
		switch n := min(1+pick(8), len(bytes)-at); pick(4) {
		case 0:
			bytes = append(bytes[:at:at], bytes[at+n:]...)
		case 1:
			from := pick(len(bytes) - n + 1)
			bytes = append(append(bytes[:at:at], bytes[from:from+n]...), bytes[at:]...)
		case 2:
			bytes = append(append(bytes[:at:at], " "+words[pick(len(words))]+" "...), bytes[at:]...)
		default:
			bytes[at] = "0123456789()[]{};:=<>+-*/&|^~!?,.@#'abqwxyz_ \n`\"$'"[pick(50)]
		}
		if len(bytes) == 0 {
			return ""
		}
	}
	return string(bytes)
}

// alike replaces a byte by one that may often stand in the same place.
func alike(pick sample.Choice, bytes []byte) {
	for range 100 {
		at := pick(len(bytes))
		for _, class := range []string{"0123", "+-&|^", "<>", "!~"} {
			if strings.IndexByte(class, bytes[at]) >= 0 {
				bytes[at] = class[pick(len(class))]
				return
			}
		}
	}
}

// TestP27_1AnyBytes: a verdict, or an error at its position; and the verdict holds.
func TestP27_1AnyBytes(t *testing.T) {
	pick := chooser(27, 10)
	kinds := map[string]int{}
	for range 3000 {
		files := one(anyText(pick))
		for _, name := range []string{"a", "b"} {
			if pick(3) == 0 {
				files = append(files, src.File{Name: name, Text: anyText(pick)})
			}
		}
		top, bound, budget := "top", pick(6), pick(300)
		if pick(30) == 0 {
			top, bound, budget = []string{"arbiter", "add", "", "f0"}[pick(4)], []int{least, most, 13, 12}[pick(4)], least
		}
		r := mustRun(t, files, "t.v", top, bound, budget)
		words := strings.Fields(r.Lines[len(r.Lines)-1])
		if strings.HasSuffix(words[0], ":") {
			words[0] = "position"
		}
		kinds[words[0]]++
		if words[0] == "fail" {
			mustFail(t, pick, files, "t.v", top, r)
		}
		if len(files) == 1 && top == "top" {
			mustHold(t, pick, files[0].Text, r.Lines, 5)
		}
		if d, fault := tool.Design(files, "t.v", top); fault == "" {
			mustBeOne(t, pick, d)
		}
	}
	if len(kinds) != 5 || kinds["safe"] < 50 || kinds["fail"] < 100 || kinds["error"] < 50 || kinds["unknown"] < 5 || kinds["position"] < 1000 {
		t.Errorf("P27.1: only %v", kinds)
	}
}

// TestP27_3AnyDump: any bytes lead to lines, or to an error.
func TestP27_3AnyDump(t *testing.T) {
	pick := chooser(27, 11)
	kinds := map[string]int{}
	for range 1000 {
		m := anyMachine(pick)
		files := one(m.text)
		dump := []byte(tool.Run(files, "t.v", "top", 4, 1000).Witness)
		for i := pick(4); i > 0 && len(dump) > 0; i-- {
			at := pick(len(dump))
			if pick(4) == 0 {
				dump = append(dump[:at:at], dump[min(len(dump), at+1+pick(30)):]...)
			} else {
				dump[at] = "0101010101b#!\"$% \nxq"[pick(20)]
			}
		}
		picks := anyPicks(pick)
		lines := tool.Replay(files, "t.v", "top", string(dump), picks...)
		last := lines[len(lines)-1]
		if other := tool.Replay(files, "t.v", "top", string(dump)); joined(other) != joined(lines) {
			t.Fatalf("P27.3: %s, not %s, with the picks %d: %s", joined(lines), joined(other), picks, dump)
		}
		for _, line := range lines[:len(lines)-1] {
			if !strings.HasPrefix(line, "fails ") || last != "end" {
				t.Fatalf("P27.3: %s: %s", joined(lines), dump)
			}
		}
		kinds[strings.Fields(last)[0]]++
	}
	if kinds["end"] < 50 || kinds["line"] < 100 || kinds["error"] < 20 || len(kinds) != 3 {
		t.Errorf("P27.3: only %v", kinds)
	}
}
