package vcd_test

import (
	"fmt"
	"slices"
	"strings"
	"testing"

	"sluicegate/api"
	"sluicegate/bv"
	"sluicegate/vcd"
)

// head are the definitions of two variables, in six lines.
const head = "$timescale 1 ns $end\n$scope module m $end\n$var wire 1 ! a $end\n$var wire 4 \" q $end\n$upscope $end\n$enddefinitions $end\n"

// TestP25_2AnyTrace: what is written is read back.
func TestP25_2AnyTrace(t *testing.T) {
	pick := chooser(25, 10)
	for i := range 400 {
		x := anyTrace(pick, 8, 8)
		if i%40 == 0 {
			x = anyTrace(pick, 300, 12)
		}
		mustMean(t, mustWrite(t, x), x)
	}
	for _, x := range []vcd.Trace{large(300, 200), large(0, 200), large(300, 0), large(0, 0), usual(), {Top: "#"}} {
		mustMean(t, mustWrite(t, x), x)
	}
}

// TestP25_2Widths: values of every width.
func TestP25_2Widths(t *testing.T) {
	pick := chooser(25, 11)
	for width := 1; width <= 128; width++ {
		x := vcd.Trace{Top: "b1", Vars: []vcd.Var{{"#0", width}, {"1!", 1}}}
		for range 4 {
			x.Values = append(x.Values, []bv.Vec{pick.Vec(width), pick.Vec(1)})
		}
		mustMean(t, mustWrite(t, x), x)
	}
}

// TestP25_3Values: changes with fewer digits, of one bit, and more than one of a
// variable.
func TestP25_3Values(t *testing.T) {
	for text, want := range map[string]string{
		"":                                      "",
		"#0":                                    "0 0000",
		"#0 #1":                                 "0 0000, 0 0000",
		"#0 1!":                                 "1 0000",
		"#0 b1 !":                               "1 0000",
		"#0 b1 \" #1 b10 \" #2":                 "0 0001, 0 0010, 0 0010",
		"#0 b0101 \" 1! #1 0! #2 b1111 \"":      "1 0101, 0 0101, 0 1111",
		"#0 1! 0! 1! b0 ! b1 ! b11 \" b1000 \"": "1 1000",
		"#0 b0 \" #1 1! #2 1! #3 0!":            "0 0000, 1 0000, 1 0000, 0 0000",
		"#000000 #1 #02 1! #003":                "0 0000, 0 0000, 1 0000, 1 0000",
		"$comment $end #0 $comment #1 $end":     "0 0000",
		"#0 $comment 1! $end b1 \" $comment b1 ! $end #1":        "0 0001, 0 0001",
		"#0 1! $comment $comment $comment $end $comment $end #1": "1 0000, 1 0000",
		"#0\r\n1!\tb1\n\n\"\r#1":                                 "1 0001, 1 0001",
	} {
		x := mustRead(t, head+text)
		var rows []string
		for _, row := range x.Values {
			rows = append(rows, row[0].Text()+" "+row[1].Text())
		}
		if got := strings.Join(rows, ", "); got != want || x.Top != "m" || show(x.Vars) != "[{Name:a Width:1} {Name:q Width:4}]" {
			t.Errorf("P25.3: %q, not %q: %q", got, want, text)
		}
	}
}

// TestP25_3Definitions: forms of definitions that Write does not write.
func TestP25_3Definitions(t *testing.T) {
	for text, want := range map[string]string{
		"$timescale $end $scope module a $end $upscope $end $enddefinitions $end":                                                                                           "a []",
		"$timescale $comment $scope 1 $end $scope module $$ $end $upscope $end $enddefinitions $end":                                                                        "",
		"$comment a\n b $timescale $end $comment $end $timescale $end $comment $end $scope module module $end $upscope $end $enddefinitions $end":                           "module []",
		"$timescale 1 $end $scope module a $end $comment $end $var wire 008 $end b $end $comment x $end $upscope $end $comment y $end $enddefinitions $end $comment z $end": "a [{b 8}]",
		"$timescale 1 $end $scope module a $end $var wire 1 $comment b1 $end $var wire 128 $var #0 $end $upscope $end $enddefinitions $end #0 1$comment b10 $var":           "a [{b1 1} {#0 128}]",
		"$timescale 1 $end $scope module ~ $end $var wire 01 ! ! $end $upscope $end $enddefinitions $end":                                                                   "~ [{! 1}]",
	} {
		x, line, err := vcd.Read(text)
		if got := fmt.Sprintf("%s %v", x.Top, x.Vars); want != "" && (got != want || err != api.OK || line != 0) {
			t.Errorf("P25.3: %q, error %d in line %d, not %q: %q", got, err, line, want, text)
		} else if want == "" && err != api.ErrName {
			t.Errorf("P25.3: error %d: %q", err, text)
		}
		mustAgree(t, text)
	}
}

// TestP25_3Errors: each error at its line.
func TestP25_3Errors(t *testing.T) {
	change := func(old, new string) string { return strings.Replace(head, old, new, 1) }
	for _, x := range []struct {
		text string
		err  api.Errno
		line int
	}{
		{"", api.ErrEnd, 1}, {" ", api.ErrEnd, 1}, {"\n", api.ErrEnd, 1}, {"\n\n", api.ErrEnd, 2}, {"\n\n ", api.ErrEnd, 3}, {"\n$comment\n", api.ErrEnd, 2},
		{"$timescale\n", api.ErrEnd, 1}, {head[:len(head)-1], api.OK, 0}, {head[:len(head)-2], api.ErrForm, 6}, {head[:len(head)-5], api.ErrEnd, 6}, {head[:len(head)-6], api.ErrEnd, 6},
		{"x", api.ErrForm, 1}, {"\nx", api.ErrForm, 2}, {"$end", api.ErrForm, 1}, {"\n \r\n\t$timescale$end", api.ErrForm, 3},
		{change("$scope", "$end"), api.ErrForm, 2}, {change("module", "\nmodul"), api.ErrForm, 3}, {change("module", "$comment x $end module"), api.ErrForm, 2},
		{change("m $end", "$end"), api.ErrName, 2}, {change("m $end", repeat("m", 201)+" $end"), api.ErrName, 2}, {change("m $end", "m\x80 $end"), api.ErrName, 2}, {change("m $end", "m m $end"), api.ErrForm, 2},
		{change("wire", "reg"), api.ErrForm, 3}, {change("wire 1", "wire"), api.ErrForm, 3}, {change("1 !", "0 !"), api.ErrWidth, 3}, {change("1 !", "000 !"), api.ErrWidth, 3},
		{change("4", "129"), api.ErrWidth, 4}, {change("4", "999"), api.ErrWidth, 4}, {change("4", "1000"), api.ErrForm, 4}, {change("4", "0004"), api.ErrForm, 4}, {change("4", "-4"), api.ErrForm, 4}, {change("4", "4x"), api.ErrForm, 4},
		{change("4", "\n\n129"), api.ErrWidth, 6}, {change("\" q", "\n! \nq"), api.ErrTwice, 5}, {change("\" q", "\n\" \na"), api.ErrTwice, 6}, {change("\" q", "! a"), api.ErrTwice, 4}, {change("4 \" q", "129\n!\na"), api.ErrWidth, 4},
		{change("\" q", "\x7f q"), api.ErrName, 4}, {change("\" q", repeat("!", 201)+" q"), api.ErrName, 4}, {change("\" q", "\" $q"), api.ErrName, 4}, {change("\" q", "\" q\x00"), api.ErrName, 4}, {change("q ", ""), api.ErrName, 4},
		{change("q ", "q [3:0] "), api.ErrForm, 4}, {change("$upscope", "$scope"), api.ErrForm, 5}, {change("$upscope $end\n", ""), api.ErrForm, 5}, {change("$upscope", "$dumpvars"), api.ErrForm, 5},
		{change("$enddefinitions", "#0"), api.ErrForm, 6}, {change("$enddefinitions $end", "$enddefinitions\n\n#0"), api.ErrForm, 8},
		{head + "1!", api.ErrForm, 7}, {head + "b1 !", api.ErrForm, 7}, {head + "$end", api.ErrForm, 7}, {head + "#1", api.ErrRange, 7}, {head + "#", api.ErrForm, 7}, {head + "#-0", api.ErrForm, 7}, {head + "#0x", api.ErrForm, 7},
		{head + "#0000000", api.ErrForm, 7}, {head + "#000000 #000001\n#0000002", api.ErrForm, 8}, {head + "#0\n#0", api.ErrRange, 8}, {head + "#0\n#2", api.ErrRange, 8}, {head + "#0\n#999999", api.ErrRange, 8}, {head + "#0\n#1000000", api.ErrForm, 8},
		{head + "#0\nb !", api.ErrForm, 8}, {head + "#0\nb2 !", api.ErrForm, 8}, {head + "#0\nb1\x00 !", api.ErrForm, 8}, {head + "#0\nx!", api.ErrForm, 8}, {head + "#0\nB1 !", api.ErrForm, 8}, {head + "#0\n1", api.ErrForm, 8}, {head + "#0\n$var", api.ErrForm, 8},
		{head + "#0\n1\"", api.ErrForm, 8}, {head + "#0\n2!", api.ErrForm, 8}, {head + "#0\n$end", api.ErrForm, 8}, {head + "#0\nb1", api.ErrEnd, 8}, {head + "#0\nb1\n\n\n", api.ErrEnd, 10},
		{head + "#0\nb1 #", api.ErrNone, 8}, {head + "#0\nb1\n#", api.ErrNone, 9}, {head + "#0\nb1\n$comment $end", api.ErrNone, 9}, {head + "#0\n1#", api.ErrNone, 8}, {head + "#0\n1\x80", api.ErrNone, 8}, {head + "#0\nb11111111\n\x80", api.ErrNone, 9}, {head + "#0\n1" + repeat("!", 201), api.ErrNone, 8},
		{head + "#0\nb11 !", api.ErrRange, 8}, {head + "#0\nb00\n!", api.ErrRange, 8}, {head + "#0\nb00000 \"", api.ErrRange, 8}, {head + "#0\n$comment", api.ErrEnd, 8}, {head + "#0\n$comment $END\n", api.ErrEnd, 8},
	} {
		if x.err == api.OK {
			mustRead(t, x.text)
		} else {
			mustReject(t, x.text, x.err, x.line)
		}
		mustAgree(t, x.text)
	}
}

// defined returns definitions of so many variables, one in each line from the third.
func defined(count int) string {
	text := "$timescale $end\n$scope module m $end\n"
	for i := range count {
		text += fmt.Sprintf("$var wire 1 i%d v%d $end\n", i, i)
	}
	return text + "$upscope $end $enddefinitions $end\n"
}

// TestP25_3Limits: exactly as many variables and times as are permitted, and one more.
func TestP25_3Limits(t *testing.T) {
	if x := mustRead(t, defined(300)); len(x.Vars) != 300 {
		t.Errorf("P25.3: %d variables", len(x.Vars))
	}
	mustReject(t, defined(301), api.ErrLimit, 303)
	for _, x := range []struct {
		old, new string
		err      api.Errno
		line     int
	}{
		{" v300", "\nv300", api.ErrLimit, 304}, {"v300", "v299", api.ErrTwice, 303}, {"v300", "$v", api.ErrName, 303}, {"i300", "i299", api.ErrTwice, 303}, {"i300 v300", "i300\n", api.ErrName, 304}, {"1 i300", "0 i300", api.ErrWidth, 303},
		{"v300 $end", "v300", api.ErrLimit, 303}, {"v300 $end\n$upscope", "", api.ErrName, 303},
	} {
		mustReject(t, strings.Replace(defined(301), x.old, x.new, 1), x.err, x.line)
	}
	text := head
	for i := range 200 {
		text += fmt.Sprintf("#%d\n", i)
	}
	if x := mustRead(t, text); len(x.Values) != 200 {
		t.Errorf("P25.3: %d times", len(x.Values))
	}
	mustReject(t, text+"#200", api.ErrLimit, 207)
	mustReject(t, text+"#000200", api.ErrLimit, 207)
	mustReject(t, text+"#201", api.ErrRange, 207)
	mustReject(t, text+"\n#0000200", api.ErrForm, 208)
}

// TestP25_3Size: exactly as many bytes as are permitted, and one more.
func TestP25_3Size(t *testing.T) {
	fill := func(s string, n int) string { return s + strings.Repeat("\n", n-len(s)) }
	if x := mustRead(t, fill(head, 1<<20)); len(x.Vars) != 2 {
		t.Errorf("P25.3: %v", x)
	}
	mustReject(t, fill(head, 1<<20+1), api.ErrSize, 1)
	mustReject(t, fill("\nx", 1<<20), api.ErrForm, 2)
	mustReject(t, fill("\nx", 1<<20+1), api.ErrSize, 1)
	mustReject(t, fill("", 1<<20), api.ErrEnd, 1<<20)
	mustReject(t, fill("", 1<<22), api.ErrSize, 1)
	mustReject(t, strings.Repeat("$comment ", 1<<20/9), api.ErrEnd, 1)
	mustRead(t, head+"#0 "+strings.Repeat("1! ", 300000))
	x := large(300, 200)
	for i := range x.Vars {
		x.Vars[i].Width = 128
		for at := range x.Values {
			x.Values[at][i] = vec(128, uint64(at))
		}
	}
	mustReject(t, mustWrite(t, x), api.ErrSize, 1)
}

// TestP25_3Words: the words that can be names and Ids.
func TestP25_3Words(t *testing.T) {
	text := func(top, id, name string) string {
		return "$timescale $end\n$scope module\n" + top + "\n$end $var wire 1\n" + id + "\n" + name + "\n$end $upscope $end $enddefinitions $end #0 b1 " + id + " 1" + id
	}
	for c := range 256 {
		one := string([]byte{byte(c)})
		if strings.Contains(" \t\r\n", one) {
			continue
		}
		isVisible := 33 <= c && c <= 126
		for _, s := range []string{one, "a" + one, one + one} {
			isWord := isVisible && s[0] != '$'
			if isWord {
				x := vcd.Trace{Top: s, Vars: []vcd.Var{{s, 1}}, Values: [][]bv.Vec{{vec(1, 1)}}}
				mustMean(t, text(s, s, s), x)
			} else {
				mustReject(t, text(s, "!", "n"), api.ErrName, 3)
				mustReject(t, text("m", "!", s), api.ErrName, 6)
			}
			if isVisible {
				mustRead(t, text("m", s, "n"))
			} else {
				mustReject(t, text("m", s, "n"), api.ErrName, 5)
			}
		}
	}
	long := repeat("ab$", 200)
	mustRead(t, text(long, long, long))
	long += "c"
	mustReject(t, text(long, "!", "n"), api.ErrName, 3)
	mustReject(t, text("m", long, "n"), api.ErrName, 5)
	mustReject(t, text("m", "!", long), api.ErrName, 6)
}

// TestP25_3Memory: results share no memory.
func TestP25_3Memory(t *testing.T) {
	s := head + "#0 1! #1 #2 b11 \" #3"
	first, second := mustRead(t, s), mustRead(t, s)
	text := show(first)
	for i, row := range second.Values {
		before := show(second.Values[i+1:])
		clear(row)
		row = append(row[:1], vec(9, 9), vec(9, 9))
		if show(second.Values[i+1:]) != before {
			t.Errorf("P25.3: times share memory: %v", second.Values)
		}
		second.Values[i] = slices.Clip(row)
	}
	clear(second.Vars)
	if show(first) != text || show(mustRead(t, s)) != text {
		t.Error("P25.3: memory is shared")
	}
}
