package vcd_test

import (
	"fmt"
	"slices"
	"strings"
	"testing"

	"sluicegate/api"
	"sluicegate/bv"
	"sluicegate/vcd"
)

// faults are the ways in which a trace can be wrong, in the order in which Check
// finds them.
var faults = []struct {
	err    api.Errno
	change func(t *vcd.Trace)
}{
	{api.ErrName, func(t *vcd.Trace) { t.Top = "" }},
	{api.ErrName, func(t *vcd.Trace) { t.Top = "$m" }},
	{api.ErrName, func(t *vcd.Trace) { t.Top = "a b" }},
	{api.ErrName, func(t *vcd.Trace) { t.Top = repeat("top", 201) }},
	{api.ErrName, func(t *vcd.Trace) { t.Vars[0].Name = "" }},
	{api.ErrName, func(t *vcd.Trace) { t.Vars[1].Name = "$" }},
	{api.ErrName, func(t *vcd.Trace) { t.Vars[1].Name = "q\n" }},
	{api.ErrName, func(t *vcd.Trace) { t.Vars[1].Name = repeat("q", 201) }},
	{api.ErrTwice, func(t *vcd.Trace) { t.Vars[0].Name = t.Vars[len(t.Vars)-1].Name }},
	{api.ErrWidth, func(t *vcd.Trace) { t.Vars[0].Width = 0 }},
	{api.ErrWidth, func(t *vcd.Trace) { t.Vars[1].Width = 129 }},
	{api.ErrWidth, func(t *vcd.Trace) { t.Vars[1].Width = least }},
	{api.ErrWidth, func(t *vcd.Trace) { t.Vars[1].Width = most }},
	{api.ErrLimit, func(t *vcd.Trace) { t.Vars = append(t.Vars, large(299, 0).Vars...) }},
	{api.ErrLimit, func(t *vcd.Trace) { t.Values = append(t.Values, large(2, 198).Values...) }},
	{api.ErrRange, func(t *vcd.Trace) { t.Values[0] = nil }},
	{api.ErrRange, func(t *vcd.Trace) { t.Values[2] = append(t.Values[2], vec(1, 0)) }},
	{api.ErrRange, func(t *vcd.Trace) { t.Values[1] = t.Values[1][:1] }},
	{api.ErrRange, func(t *vcd.Trace) { t.Values[1][1] = vec(3, 0) }},
	{api.ErrRange, func(t *vcd.Trace) { t.Values[1][0] = bv.Vec{} }},
	{api.ErrRange, func(t *vcd.Trace) { t.Vars[1].Width = 5 }},
	{api.ErrRange, func(t *vcd.Trace) { t.Vars = append(t.Vars, vcd.Var{Name: "c", Width: 1}) }},
}

// mustBeWrong fails unless Check and Write return an error.
func mustBeWrong(t *testing.T, what string, x vcd.Trace, want api.Errno) {
	t.Helper()
	s, err := vcd.Write(x)
	if got := x.Check(); got != want || err != want || s != "" {
		t.Errorf("P25.1: %s: errors %d, %d, not %d, %q", what, got, err, want, s)
	}
}

// TestP25_1Errors: each error, and the first one of two.
func TestP25_1Errors(t *testing.T) {
	for i, a := range faults {
		x := usual()
		a.change(&x)
		mustBeWrong(t, fmt.Sprint("fault ", i), x, a.err)
		for k, b := range faults[i:] {
			if b.err == a.err {
				continue
			}
			x := usual()
			b.change(&x)
			a.change(&x)
			mustBeWrong(t, fmt.Sprint("faults ", i, " and ", i+k), x, a.err)
		}
	}
}

// TestP25_1ErrorOrder: a trace with all errors, from which one after another is
// removed.
func TestP25_1ErrorOrder(t *testing.T) {
	x := large(301, 201)
	x.Top, x.Vars[300].Name, x.Vars[7].Name, x.Vars[9].Width, x.Values[200] = "\x7f", "\x80", "v8", 0, nil
	mustBeWrong(t, "all", x, api.ErrName)
	x.Top = "m"
	mustBeWrong(t, "all but Top", x, api.ErrName)
	x.Vars[300].Name = "w"
	mustBeWrong(t, "without ErrName", x, api.ErrTwice)
	x.Vars[7].Name = "v7"
	mustBeWrong(t, "without ErrTwice", x, api.ErrWidth)
	x.Vars[9].Width = 2
	mustBeWrong(t, "without ErrWidth", x, api.ErrLimit)
	y := x
	y.Vars = x.Vars[:300]
	mustBeWrong(t, "with too many times", y, api.ErrLimit)
	y = x
	y.Values = x.Values[1:]
	mustBeWrong(t, "with too many variables", y, api.ErrLimit)
	y.Vars = y.Vars[:300]
	mustBeWrong(t, "without ErrLimit", y, api.ErrRange)
}

// TestP25_1Limits: exactly as much as is permitted, and one more.
func TestP25_1Limits(t *testing.T) {
	for _, x := range []vcd.Trace{large(300, 200), large(0, 200), large(300, 0), {Top: "m"}, {Top: "m", Vars: []vcd.Var{}, Values: [][]bv.Vec{nil, {}}}} {
		if err := x.Check(); err != api.OK {
			t.Errorf("P25.1: error %d for %d variables, %d times", err, len(x.Vars), len(x.Values))
		}
		mustWrite(t, x)
	}
	mustBeWrong(t, "301 variables", large(301, 0), api.ErrLimit)
	mustBeWrong(t, "201 times", large(0, 201), api.ErrLimit)
	mustBeWrong(t, "the zero trace", vcd.Trace{}, api.ErrName)
	for width := -3; width <= 131; width++ {
		x := vcd.Trace{Top: "m", Vars: []vcd.Var{{"a", width}}}
		if 1 <= width && width <= 128 {
			x.Values = [][]bv.Vec{{vec(width, 1)}}
			mustWrite(t, x)
		} else {
			mustBeWrong(t, fmt.Sprint("width ", width), x, api.ErrWidth)
		}
	}
}

// TestP25_1Words: the names that a scope and a variable can have.
func TestP25_1Words(t *testing.T) {
	mustBe := func(s string, isWord bool) {
		t.Helper()
		for _, x := range []vcd.Trace{{Top: s}, {Top: "m", Vars: []vcd.Var{{"a", 1}, {s, 1}}}} {
			if isWord && s != "a" {
				mustWrite(t, x)
			} else if !isWord {
				mustBeWrong(t, fmt.Sprintf("%q", s), x, api.ErrName)
			}
		}
	}
	for c := range 256 {
		isVisible := 33 <= c && c <= 126
		one := string([]byte{byte(c)})
		mustBe(one, isVisible && c != '$')
		mustBe("ab"+one, isVisible)
		mustBe("$"+one, false)
	}
	mustBe(repeat("name$", 199), true)
	mustBe(repeat("name$", 200), true)
	mustBe(repeat("name$", 201), false)
	mustBe(repeat("name$", 100000), false)
	mustBe("é", false)
}

// TestP25_1Example: the example of the chapter, and what is before it.
func TestP25_1Example(t *testing.T) {
	x := vcd.Trace{Top: "top", Vars: []vcd.Var{{"a", 1}}, Values: [][]bv.Vec{{vec(1, 1)}, {vec(1, 1)}, {vec(1, 0)}}}
	want := "$timescale 1 ns $end\n$scope module top $end\n$var wire 1 ! a $end\n$upscope $end\n$enddefinitions $end\n#0\nb1 !\n#1\n#2\nb0 !\n"
	if s := mustWrite(t, x); s != want {
		t.Errorf("P25.1: %q, not %q", s, want)
	}
	head, _, _ := strings.Cut(want, "#")
	x.Values = nil
	if s := mustWrite(t, x); s != head {
		t.Errorf("P25.1: %q, not %q", s, head)
	}
	x.Values, x.Vars = [][]bv.Vec{nil, nil}, nil
	want = "$timescale 1 ns $end\n$scope module top $end\n$upscope $end\n$enddefinitions $end\n#0\n#1\n"
	if s := mustWrite(t, x); s != want {
		t.Errorf("P25.1: %q, not %q", s, want)
	}
}

// TestP25_1Ids: the Ids of as many variables as there can be.
func TestP25_1Ids(t *testing.T) {
	var ids []string
	for _, line := range strings.Split(mustWrite(t, large(300, 1)), "\n") {
		if words := strings.Fields(line); len(words) > 0 && words[0] == "$var" {
			ids = append(ids, words[3])
			if words[4] != fmt.Sprint("v", len(ids)-1) {
				t.Errorf("P25.1: %s", line)
			}
		}
	}
	if len(ids) != 300 {
		t.Fatalf("P25.1: %d Ids", len(ids))
	}
	for i, id := range ids {
		number, unit := 0, 1
		for _, c := range []byte(id) {
			number += int(c-33) * unit
			unit *= 94
		}
		if number != i || len(id) > 1 && strings.HasSuffix(id, "!") || len(id) > 1 && i < 94 {
			t.Errorf("P25.1: variable %d has the Id %s", i, id)
		}
	}
	for i, want := range map[int]string{0: "!", 1: "\"", 3: "$", 93: "~", 94: "!\"", 95: "\"\"", 187: "~\"", 188: "!#", 299: "2$"} {
		if ids[i] != want {
			t.Errorf("P25.1: variable %d has the Id %s, not %s", i, ids[i], want)
		}
	}
}

// dump writes a trace line by line, with every value before the next one.
func dump(x vcd.Trace) string {
	text := fmt.Sprintf("$timescale 1 ns $end\n$scope module %s $end\n", x.Top)
	ids := make([]string, len(x.Vars))
	for i, v := range x.Vars {
		ids[i] = digits[i%94 : i%94+1]
		if i >= 94 {
			ids[i] += digits[i/94 : i/94+1]
		}
		text += fmt.Sprintf("$var wire %d %s %s $end\n", v.Width, ids[i], v.Name)
	}
	text += "$upscope $end\n$enddefinitions $end\n"
	last := make([]string, len(x.Vars))
	for at, row := range x.Values {
		text += fmt.Sprintf("#%d\n", at)
		for i, v := range row {
			bits := ""
			for _, isSet := range slices.Backward(v.Bits()) {
				bits += map[bool]string{true: "1", false: "0"}[isSet]
			}
			if bits != last[i] {
				text += "b" + bits + " " + ids[i] + "\n"
			}
			last[i] = bits
		}
	}
	return text
}

func TestP25_1AnyTrace(t *testing.T) {
	pick := chooser(25, 1)
	for i := range 400 {
		x := anyTrace(pick, 8, 8)
		if i%40 == 0 {
			x = anyTrace(pick, 300, 12)
		}
		if s := mustWrite(t, x); s != dump(x) {
			t.Fatalf("P25.1: %s, not %s", short(s), short(dump(x)))
		}
	}
}

// TestP25_1Memory: Check and Write change nothing, not even spare capacity.
func TestP25_1Memory(t *testing.T) {
	x := usual()
	vars, values, row := append(x.Vars, vcd.Var{Name: "c", Width: 3}), append(x.Values, nil), append(x.Values[1], vec(7, 1))
	x.Vars, x.Values, x.Values[1] = vars[:2], values[:3], row[:2]
	first := mustWrite(t, x)
	if mustWrite(t, x) != first || vars[2].Name != "c" || values[3] != nil || row[2] != vec(7, 1) {
		t.Error("P25.1: something has changed")
	}
}
