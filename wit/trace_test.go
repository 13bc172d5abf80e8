package wit_test

import (
	"fmt"
	"slices"
	"strings"
	"testing"

	"sluicegate/api"
	"sluicegate/bmc"
	"sluicegate/bv"
	"sluicegate/cyc"
	"sluicegate/net"
	"sluicegate/vcd"
	"sluicegate/wit"
)

// TestP26_1Example: the variables and values of the trace of a run.
func TestP26_1Example(t *testing.T) {
	n, run := usual(t)
	x := mustTrace(t, n, run)
	if got, want := names(x.Vars), "assert:16 in.a:2 in.b:1 start.q:4 start.r:3 start.m[0]:4 start.m[1]:4 start.n[0]:1"; got != want || x.Top != "witness" {
		t.Errorf("P26.1: %s: %s, not %s", x.Top, got, want)
	}
	want := "0000000000000001 01 1 1001 110 0011 0000 1, 0000000000000001 11 0 1001 110 0011 0000 1, 0000000000000001 00 1 1001 110 0011 0000 1"
	if got := rows(x.Values); got != want {
		t.Errorf("P26.1: %s, not %s", got, want)
	}
	mustReturn(t, n, x, run)
	d := design(t, "module top (input clk, input a, output reg q); always @(posedge clk) begin q <= a; p: assert (q); end endmodule")
	r := mustSynth(t, d)
	answer, _ := bmc.Check(r.Net, 1, 100)
	x = mustTrace(t, r.Net, answer.Witness)
	if got := names(x.Vars); got != "assert:16 in.a:1 start.q:1" {
		t.Errorf("P26.1: %s", got)
	}
}

// TestP26_1AnyRun: FromTrace is the inverse of ToTrace, whether a run is a valid
// witness or not.
func TestP26_1AnyRun(t *testing.T) {
	pick := chooser(26, 1)
	valid := 0
	for range 1500 {
		n, run := anyRun(pick)
		if ok, _ := bmc.Replay(n, run); ok {
			valid++
		}
		x := mustTrace(t, n, run)
		if len(x.Values) != len(run.Ins) || x.Top != "witness" {
			t.Fatalf("P26.1: %s", show(x))
		}
		mustHold(t, n, run, x)
		mustReturn(t, n, x, run)
	}
	if valid < 30 || valid > 1400 {
		t.Errorf("P26.1: %d valid witnesses", valid)
	}
}

// mustHold fails unless each variable of a trace has the values that its name says.
func mustHold(t *testing.T, n *net.Net, run bmc.Witness, x vcd.Trace) {
	t.Helper()
	count := 0
	mustBe := func(name string, width int, value func(cycle int) bv.Vec) {
		if count >= len(x.Vars) || x.Vars[count] != (vcd.Var{Name: name, Width: width}) {
			t.Fatalf("P26.1: variable %d is not %s with %d bits: %s", count, name, width, names(x.Vars))
		}
		for i, row := range x.Values {
			if row[count] != value(i) {
				t.Fatalf("P26.1: %s in cycle %d is %s, not %s", name, i, row[count].Text(), value(i).Text())
			}
		}
		count++
	}
	mustBe("assert", 16, func(int) bv.Vec { return vec(16, uint64(run.Assert)) })
	for i, pin := range n.Inputs {
		mustBe("in."+pin.Name, pin.Width, func(cycle int) bv.Vec { return run.Ins[cycle][i] })
	}
	for i, reg := range n.Regs {
		mustBe("start."+reg.Name, reg.Width, func(int) bv.Vec { return run.Start.Regs[i] })
	}
	for i, m := range n.Mems {
		for at := range m.Words {
			mustBe(fmt.Sprintf("start.%s[%d]", m.Name, at), m.Width, func(int) bv.Vec { return run.Start.Words[i][at] })
		}
	}
	if count != len(x.Vars) {
		t.Fatalf("P26.1: more than %d variables: %s", count, names(x.Vars))
	}
}

// TestP26_1Back: ToTrace is the inverse of FromTrace.
func TestP26_1Back(t *testing.T) {
	pick := chooser(26, 2)
	for range 500 {
		n, run := anyRun(pick)
		x := mustTrace(t, n, run)
		for i, v := range x.Vars {
			value := pick.Vec(v.Width)
			for at := range x.Values {
				if strings.HasPrefix(v.Name, "in.") {
					value = pick.Vec(v.Width)
				}
				if i > 0 {
					x.Values[at][i] = value
				}
			}
		}
		run, err := wit.FromTrace(n, x)
		if err != api.OK {
			t.Fatalf("P26.1: error %d: %s", err, show(x))
		}
		if y := mustTrace(t, n, run); show(y) != show(x) {
			t.Fatalf("P26.1: %s, not %s", show(y), show(x))
		}
	}
}

// TestP26_1ReplayErrors: those of bmc.Replay, and nothing with them.
func TestP26_1ReplayErrors(t *testing.T) {
	for _, x := range []struct {
		what   string
		change func(n *net.Net, run *bmc.Witness)
		err    api.Errno
	}{
		{"no cycles", func(n *net.Net, run *bmc.Witness) { run.Ins = nil }, api.ErrRange},
		{"no such assertion", func(n *net.Net, run *bmc.Witness) { run.Assert = 2 }, api.ErrRange},
		{"a negative assertion", func(n *net.Net, run *bmc.Witness) { run.Assert = -1 }, api.ErrRange},
		{"the least assertion", func(n *net.Net, run *bmc.Witness) { run.Assert = least }, api.ErrRange},
		{"the greatest assertion", func(n *net.Net, run *bmc.Witness) { run.Assert = most }, api.ErrRange},
		{"no assertions", func(n *net.Net, run *bmc.Witness) { n.Asserts = nil }, api.ErrRange},
		{"too many cycles", func(n *net.Net, run *bmc.Witness) { run.Ins = make([][]bv.Vec, 201) }, api.ErrLimit},
		{"a netlist with an error", func(n *net.Net, run *bmc.Witness) { n.Nodes[0].Kind = 0 }, api.ErrInval},
		{"fewer registers", func(n *net.Net, run *bmc.Witness) { run.Start.Regs = run.Start.Regs[:1] }, api.ErrRange},
		{"fewer words", func(n *net.Net, run *bmc.Witness) { run.Start.Words[0] = vecs(4, 1) }, api.ErrRange},
		{"fewer inputs", func(n *net.Net, run *bmc.Witness) { run.Ins[2] = vecs(2, 1) }, api.ErrRange},
		{"an input of another width", func(n *net.Net, run *bmc.Witness) { run.Ins[2][1] = vec(2, 1) }, api.ErrWidth},
		{"memories of any size", func(n *net.Net, run *bmc.Witness) { n.Mems[0].Words = most }, api.ErrRange},
	} {
		for _, name := range []string{"a", "", "b"} {
			n, run := usual(t)
			n.Inputs[0].Name = name
			x.change(n, &run)
			if got, err := wit.ToTrace(n, run); err != x.err || show(got) != show(vcd.Trace{}) {
				t.Errorf("P26.1: %s: error %d, not %d, %s", x.what, err, x.err, show(got))
			}
		}
	}
	if got, err := wit.ToTrace(nil, bmc.Witness{Ins: make([][]bv.Vec, 1)}); err != api.ErrRange || show(got) != show(vcd.Trace{}) {
		t.Errorf("P26.1: error %d, %s", err, show(got))
	}
}

// TestP26_1CheckErrors: those of the trace's Check, in their order.
func TestP26_1CheckErrors(t *testing.T) {
	name := func(size int) string { return strings.Repeat("n", size) }
	for _, x := range []struct {
		what   string
		change func(n *net.Net)
		err    api.Errno
	}{
		{"no change", func(n *net.Net) {}, api.OK},
		{"an input with a blank", func(n *net.Net) { n.Inputs[1].Name = "b c" }, api.ErrName},
		{"a register with a byte", func(n *net.Net) { n.Regs[1].Name = "\x80" }, api.ErrName},
		{"a memory with a line feed", func(n *net.Net) { n.Mems[1].Name = "\n" }, api.ErrName},
		{"names with nothing", func(n *net.Net) { n.Inputs[1].Name, n.Regs[1].Name, n.Mems[1].Name = "", "", "" }, api.OK},
		{"names with $", func(n *net.Net) { n.Inputs[1].Name, n.Regs[1].Name, n.Mems[1].Name = "$", "$", "$" }, api.OK},
		{"names of any size", func(n *net.Net) { n.Inputs[1].Name, n.Regs[1].Name, n.Mems[1].Name = name(197), name(194), name(191) }, api.OK},
		{"a longer input", func(n *net.Net) { n.Inputs[1].Name = name(198) }, api.ErrName},
		{"a longer register", func(n *net.Net) { n.Regs[1].Name = name(195) }, api.ErrName},
		{"a longer memory", func(n *net.Net) { n.Mems[1].Name = name(192) }, api.ErrName},
		{"two inputs", func(n *net.Net) { n.Inputs[1].Name = "a" }, api.ErrTwice},
		{"two registers", func(n *net.Net) { n.Regs[1].Name = "q" }, api.ErrTwice},
		{"two memories", func(n *net.Net) { n.Mems[1].Name = "m" }, api.ErrTwice},
		{"a register like a word", func(n *net.Net) { n.Regs[1].Name = "m[1]" }, api.ErrTwice},
		{"a register like no word", func(n *net.Net) { n.Regs[1].Name = "m[2]" }, api.OK},
		{"a register like a memory", func(n *net.Net) { n.Regs[1].Name = "m" }, api.OK},
		{"an input like a register", func(n *net.Net) { n.Inputs[1].Name = "q" }, api.OK},
		{"two inputs and a blank", func(n *net.Net) { n.Inputs[1].Name, n.Mems[1].Name = "a", " " }, api.ErrName},
	} {
		n, run := usual(t)
		x.change(n)
		got, err := wit.ToTrace(n, run)
		if err != x.err || err != api.OK && show(got) != show(vcd.Trace{}) {
			t.Errorf("P26.1: %s: error %d, not %d, %s", x.what, err, x.err, show(got))
		}
		if err == api.OK {
			mustReturn(t, n, got, run)
		}
	}
}

// TestP26_1Limits: exactly as many variables and cycles as are permitted, and one
// more.
func TestP26_1Limits(t *testing.T) {
	n, run := single(t, 299, 200)
	mustReturn(t, n, mustTrace(t, n, run), run)
	n, run = single(t, 300, 1)
	mustFail := func(what string, want api.Errno) {
		t.Helper()
		if x, err := wit.ToTrace(n, run); err != want || show(x) != show(vcd.Trace{}) {
			t.Errorf("P26.1: %s: error %d, not %d, %s", what, err, want, show(x))
		}
	}
	mustFail("301 variables", api.ErrLimit)
	n.Inputs[299].Name = "i298"
	mustFail("301 variables, two of which have the same name", api.ErrTwice)
	n.Inputs[299].Name = "\x1f"
	mustFail("301 variables, one of which has no name", api.ErrName)
	n, run = single(t, 1, 201)
	mustFail("201 cycles", api.ErrLimit)
	n, run = single(t, 1, 1)
	n.Mems = []net.Mem{{Name: "m", Width: 3, Words: 298}}
	run.Start.Words = [][]bv.Vec{vecs(3, make([]uint64, 298)...)}
	mustReturn(t, n, mustTrace(t, n, run), run)
	for _, words := range []int{299, 1 << 16} {
		n.Mems[0].Words = words
		run.Start.Words[0] = vecs(3, make([]uint64, words)...)
		run.Ins = slices.Repeat(run.Ins[:1], 200)
		mustFail("too many words", api.ErrLimit)
	}
	n.Regs = []net.Register{{Name: "m[65535]", Width: 3}}
	run.Start.Regs = vecs(3, 0)
	add(t, n, net.Node{Kind: net.Reg, Width: 3})
	n.Regs[0].Next = len(n.Nodes) - 1
	mustFail("too many words, and a register like one of them", api.ErrTwice)
}

// TestP26_1Assertions: the number has 16 bits.
func TestP26_1Assertions(t *testing.T) {
	n, run := single(t, 0, 1)
	n.Asserts = slices.Repeat(n.Asserts, 1<<16)
	for _, i := range []int{0, 1, 255, 256, 1<<16 - 1} {
		run.Assert = i
		x := mustTrace(t, n, run)
		if got := x.Values[0][0]; got != vec(16, uint64(i)) {
			t.Errorf("P26.1: %s is %d", got.Text(), i)
		}
		mustReturn(t, n, x, run)
		n.Asserts = n.Asserts[:i+1]
		mustReturn(t, n, x, run)
		n.Asserts = n.Asserts[:i]
		if got, err := wit.FromTrace(n, x); err != api.ErrRange || show(got) != show(bmc.Witness{}) {
			t.Errorf("P26.1: error %d, %s", err, show(got))
		}
		n.Asserts = n.Asserts[:1<<16]
	}
}

// TestP26_1FromErrors: the errors of FromTrace, and the first one of several.
func TestP26_1FromErrors(t *testing.T) {
	for _, x := range []struct {
		what   string
		change func(n *net.Net, x *vcd.Trace)
		err    api.Errno
	}{
		{"an invalid Top", func(n *net.Net, x *vcd.Trace) { x.Top = "$" }, api.ErrName},
		{"a name twice", func(n *net.Net, x *vcd.Trace) { x.Vars[1].Name = "assert" }, api.ErrTwice},
		{"an invalid width", func(n *net.Net, x *vcd.Trace) { x.Vars[1].Width = 0 }, api.ErrWidth},
		{"too many times", func(n *net.Net, x *vcd.Trace) { x.Values = make([][]bv.Vec, 201) }, api.ErrLimit},
		{"fewer values", func(n *net.Net, x *vcd.Trace) { x.Values[1] = nil }, api.ErrRange},
		{"another value", func(n *net.Net, x *vcd.Trace) { x.Values[1][7] = vec(2, 1) }, api.ErrRange},
		{"another Top, and fewer values", func(n *net.Net, x *vcd.Trace) { x.Top = "signals"; x.Values[2] = nil }, api.ErrRange},
		{"another Top", func(n *net.Net, x *vcd.Trace) { x.Top = "signals" }, api.ErrForm},
		{"another assert", func(n *net.Net, x *vcd.Trace) { x.Vars[0].Name = "Assert" }, api.ErrForm},
		{"another input", func(n *net.Net, x *vcd.Trace) { x.Vars[1].Name = "in.c" }, api.ErrForm},
		{"inputs in another order", func(n *net.Net, x *vcd.Trace) { x.Vars[1].Name, x.Vars[2].Name = "in.b", "in.a" }, api.ErrForm},
		{"another register", func(n *net.Net, x *vcd.Trace) { x.Vars[3].Name = "in.q" }, api.ErrForm},
		{"another word", func(n *net.Net, x *vcd.Trace) { x.Vars[6].Name = "start.m[01]" }, api.ErrForm},
		{"another last word", func(n *net.Net, x *vcd.Trace) { x.Vars[7].Name = "start.n[1]" }, api.ErrForm},
		{"a word more", func(n *net.Net, x *vcd.Trace) { n.Mems[1].Words = 0 }, api.ErrForm},
		{"a word less", func(n *net.Net, x *vcd.Trace) { n.Mems[1].Words = 2 }, api.ErrForm},
		{"many words less", func(n *net.Net, x *vcd.Trace) { n.Mems[1].Words = most }, api.ErrForm},
		{"a memory with less than no words", func(n *net.Net, x *vcd.Trace) { n.Mems[1].Words = least }, api.ErrForm},
		{"a memory more", func(n *net.Net, x *vcd.Trace) { n.Mems = n.Mems[:1] }, api.ErrForm},
		{"a register less", func(n *net.Net, x *vcd.Trace) { n.Regs = append(n.Regs, net.Register{Name: "s", Width: 1}) }, api.ErrForm},
		{"an input less", func(n *net.Net, x *vcd.Trace) { n.Inputs = append(n.Inputs, net.Pin{Name: "c", Width: 1}) }, api.ErrForm},
		{"an empty netlist", func(n *net.Net, x *vcd.Trace) { *n = net.Net{} }, api.ErrForm},
		{"no variables", func(n *net.Net, x *vcd.Trace) { x.Vars, x.Values = nil, make([][]bv.Vec, 3) }, api.ErrForm},
		{"no variables and times", func(n *net.Net, x *vcd.Trace) { x.Vars, x.Values = nil, nil }, api.ErrForm},
		{"another width of assert", func(n *net.Net, x *vcd.Trace) { x.Vars[0].Width, x.Values = 15, nil }, api.ErrForm},
		{"another width of an input", func(n *net.Net, x *vcd.Trace) { n.Inputs[0].Width = 3 }, api.ErrForm},
		{"another width of a register", func(n *net.Net, x *vcd.Trace) { n.Regs[1].Width = 4 }, api.ErrForm},
		{"another width of a word", func(n *net.Net, x *vcd.Trace) { n.Mems[0].Width = 5 }, api.ErrForm},
		{"assert changes", func(n *net.Net, x *vcd.Trace) { x.Values[2][0] = vec(16, 0) }, api.ErrForm},
		{"a register changes", func(n *net.Net, x *vcd.Trace) { x.Values[1][3] = vec(4, 0) }, api.ErrForm},
		{"a register begins with something else", func(n *net.Net, x *vcd.Trace) { x.Values[0][4] = vec(3, 0) }, api.ErrForm},
		{"the last word changes", func(n *net.Net, x *vcd.Trace) { x.Values[2][7] = vec(1, 0) }, api.ErrForm},
		{"no times", func(n *net.Net, x *vcd.Trace) { x.Values = nil }, api.ErrRange},
		{"no times, and another Top", func(n *net.Net, x *vcd.Trace) { x.Values = nil; x.Top = "w" }, api.ErrForm},
		{"no times, and no assertions", func(n *net.Net, x *vcd.Trace) { x.Values, n.Asserts = nil, nil }, api.ErrRange},
		{"no assertions", func(n *net.Net, x *vcd.Trace) { n.Asserts = nil }, api.ErrRange},
		{"no such assertion", func(n *net.Net, x *vcd.Trace) { n.Asserts = n.Asserts[:1] }, api.ErrRange},
		{"no such assertion, and a register changes", func(n *net.Net, x *vcd.Trace) { n.Asserts = nil; x.Values[1][3] = vec(4, 0) }, api.ErrForm},
	} {
		n, run := usual(t)
		y := mustTrace(t, n, run)
		x.change(n, &y)
		if got, err := wit.FromTrace(n, y); err != x.err || show(got) != show(bmc.Witness{}) {
			t.Errorf("P26.1: %s: error %d, not %d, %s", x.what, err, x.err, show(got))
		}
	}
}

// TestP26_1NoErrors: what FromTrace does not mind.
func TestP26_1NoErrors(t *testing.T) {
	n, run := usual(t)
	x := mustTrace(t, n, run)
	n.Nodes = nil
	n.Outs[0].Node = least
	n.Regs[1].First = vec(3, 0)
	n.Mems = append(n.Mems, net.Mem{Name: "a b", Width: 200}, net.Mem{Words: -1})
	run.Start.Words = append(run.Start.Words, nil, nil)
	mustReturn(t, n, x, run)
}

// TestP26_1Nothing: a netlist that could not be made is an empty one.
func TestP26_1Nothing(t *testing.T) {
	x := vcd.Trace{Top: "witness", Vars: []vcd.Var{{Name: "assert", Width: 16}}}
	for _, n := range []*net.Net{nil, {}} {
		for _, values := range [][][]bv.Vec{nil, {{vec(16, 0)}}} {
			x.Values = values
			if got, err := wit.FromTrace(n, x); err != api.ErrRange || show(got) != show(bmc.Witness{}) {
				t.Errorf("P26.1: error %d, %s", err, show(got))
			}
		}
		if got, err := wit.FromTrace(n, vcd.Trace{}); err != api.ErrName || show(got) != show(bmc.Witness{}) {
			t.Errorf("P26.1: error %d, %s", err, show(got))
		}
	}
	n, run := single(t, 0, 3)
	x = mustTrace(t, n, run)
	if got := rows(x.Values); len(x.Vars) != 1 || got != "0000000000000000, 0000000000000000, 0000000000000000" {
		t.Errorf("P26.1: %s", got)
	}
	mustReturn(t, n, x, run)
}

// TestP26_1Memory: results share no memory with each other or with arguments.
func TestP26_1Memory(t *testing.T) {
	pick := chooser(26, 3)
	for range 200 {
		n, run := anyRun(pick)
		first, second := mustTrace(t, n, run), mustTrace(t, n, run)
		text := show(first)
		for i, row := range second.Values {
			rest := show(second.Values[i+1:])
			clear(append(row, vec(3, 3))[:len(row)])
			clear(row)
			if show(second.Values[i+1:]) != rest {
				t.Fatal("P26.1: times share memory")
			}
		}
		clear(second.Vars)
		before := show(run)
		spoil(run)
		if show(first) != text {
			t.Fatal("P26.1: memory is shared")
		}
		one, _ := wit.FromTrace(n, first)
		two, _ := wit.FromTrace(n, first)
		for i, ins := range two.Ins {
			rest := show(two.Ins[i+1:])
			_ = append(ins, vec(5, 5), vec(5, 5))
			if show(two.Ins[i+1:]) != rest {
				t.Fatal("P26.1: cycles share memory")
			}
		}
		regs, words := append(two.Start.Regs, vec(5, 5), vec(5, 5)), show(two.Start.Words)
		clear(regs)
		for _, list := range two.Start.Words {
			_ = append(list, vec(5, 5), vec(5, 5))
		}
		if show(two.Start.Words) != words {
			t.Fatal("P26.1: registers and words share memory")
		}
		spoil(two)
		if show(one) != before || show(first) != text {
			t.Fatal("P26.1: memory is shared")
		}
		for _, row := range first.Values {
			clear(row)
		}
		if show(one) != before {
			t.Fatal("P26.1: memory is shared")
		}
	}
}

// TestP26_1Disturbed: ToTrace and FromTrace return for netlists that may not be valid.
func TestP26_1Disturbed(t *testing.T) {
	pick := chooser(26, 4)
	for range 3000 {
		n, run := anyRun(pick)
		x := mustTrace(t, n, run)
		pick.DisturbNet(n)
		_, want := bmc.Replay(n, run)
		y, err := wit.ToTrace(n, run)
		if err != want || err != api.OK && show(y) != show(vcd.Trace{}) {
			t.Fatalf("P26.1: error %d, not %d, %s\n%s", err, want, show(y), showNet(n))
		}
		if got, err := wit.FromTrace(n, x); err != api.OK && show(got) != show(bmc.Witness{}) {
			t.Fatalf("P26.1: error %d, %s\n%s", err, show(got), showNet(n))
		}
		wit.Signals(n, run)
		wit.Signals(n, bmc.Witness{Start: cyc.Zero(n)})
	}
}
