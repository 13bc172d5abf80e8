package vcd_test

import (
	"fmt"
	"math/rand/v2"
	"slices"
	"strconv"
	"strings"
	"testing"

	"sluicegate/api"
	"sluicegate/bv"
	"sluicegate/sample"
	"sluicegate/vcd"
)

const (
	least = -1 << 63
	most  = 1<<63 - 1
)

func chooser(a, b uint64) sample.Choice { return rand.New(rand.NewPCG(a, b)).IntN }

func vec(width int, n uint64) bv.Vec {
	v, _ := bv.New(width, n)
	return v
}

// show writes something without a difference between nil and empty lists.
func show(x any) string { return fmt.Sprintf("%+v", x) }

// short is a text for messages.
func short(s string) string {
	if len(s) <= 1000 {
		return strconv.Quote(s)
	}
	return strconv.Quote(s[:500]) + ".." + strconv.Quote(s[len(s)-400:])
}

// usual returns a trace with two variables and three times.
func usual() vcd.Trace {
	return vcd.Trace{
		Top: "m", Vars: []vcd.Var{{Name: "a", Width: 1}, {Name: "q", Width: 4}},
		Values: [][]bv.Vec{{vec(1, 1), vec(4, 2)}, {vec(1, 1), vec(4, 9)}, {vec(1, 0), vec(4, 9)}},
	}
}

// large returns a trace with so many variables and times. All values are 0.
func large(vars, times int) vcd.Trace {
	t := vcd.Trace{Top: "m"}
	var row []bv.Vec
	for i := range vars {
		t.Vars = append(t.Vars, vcd.Var{Name: "v" + strconv.Itoa(i), Width: 1 + i%2})
		row = append(row, vec(1+i%2, 0))
	}
	for range times {
		t.Values = append(t.Values, slices.Clone(row))
	}
	return t
}

// digits are those of Ids, and the bytes of names.
var digits = func() string {
	var list []byte
	for c := byte(33); c <= 126; c++ {
		list = append(list, c)
	}
	return string(list)
}()

// name returns a name that is not one of those in use.
func name(pick sample.Choice, used map[string]bool) string {
	for {
		var list []byte
		for range 1 + pick([]int{2, 5, 200}[pick(3)]) {
			list = append(list, digits[pick(len(digits))])
		}
		if s := string(list); s[0] != '$' && !used[s] {
			used[s] = true
			return s
		}
	}
}

// anyTrace returns a valid trace with at most so many variables and times.
func anyTrace(pick sample.Choice, vars, times int) vcd.Trace {
	t := vcd.Trace{Top: name(pick, map[string]bool{})}
	used := map[string]bool{}
	for range pick(vars + 1) {
		width := 1 + pick(3)
		if pick(3) == 0 {
			width = pick.Width()
		}
		t.Vars = append(t.Vars, vcd.Var{Name: name(pick, used), Width: width})
	}
	for at := range pick(times + 1) {
		var row []bv.Vec
		for i, x := range t.Vars {
			v := pick.Vec(x.Width)
			if at > 0 && pick(2) == 0 {
				v = t.Values[at-1][i]
			}
			row = append(row, v)
		}
		t.Values = append(t.Values, row)
	}
	return t
}

// mustWrite returns the dump of a trace, which has no error.
func mustWrite(t *testing.T, x vcd.Trace) string {
	t.Helper()
	before := show(x)
	s, err := vcd.Write(x)
	if err != api.OK || x.Check() != api.OK {
		t.Fatalf("P25.1: error %d: %s", err, short(before))
	}
	if show(x) != before {
		t.Fatalf("P25.1: the trace has changed: %s", short(before))
	}
	return s
}

// mustRead returns the trace of a dump, which has no error. It is what is read again
// after it was written, if there is room for that.
func mustRead(t *testing.T, s string) vcd.Trace {
	t.Helper()
	x, line, err := vcd.Read(s)
	if err != api.OK || line != 0 {
		t.Fatalf("P25.3: error %d in line %d: %s", err, line, short(s))
	}
	if text := mustWrite(t, x); len(text) <= 1<<20 && text != s {
		mustMean(t, text, x)
	}
	return x
}

// mustMean fails unless a dump is that of a trace.
func mustMean(t *testing.T, s string, want vcd.Trace) {
	t.Helper()
	x, line, err := vcd.Read(s)
	if err != api.OK || line != 0 || show(x) != show(want) {
		t.Fatalf("P25.2: error %d in line %d, %s, not %s: %s", err, line, short(show(x)), short(show(want)), short(s))
	}
}

// mustReject fails unless a text has an error in a line.
func mustReject(t *testing.T, s string, want api.Errno, wantLine int) {
	t.Helper()
	x, line, err := vcd.Read(s)
	if err != want || line != wantLine || show(x) != show(vcd.Trace{}) {
		t.Errorf("P25.3: error %d in line %d, not %d in %d, %s: %s", err, line, want, wantLine, short(show(x)), short(s))
	}
}

// repeat returns a text of n bytes.
func repeat(s string, n int) string { return strings.Repeat(s, n/len(s)+1)[:n] }
