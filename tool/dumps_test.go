package tool_test

import (
	"fmt"
	"slices"
	"strings"
	"testing"

	"sluicegate/api"
	"sluicegate/tool"
	"sluicegate/vcd"
)

// mustRead returns the trace of a dump, which is written as it was.
func mustRead(t *testing.T, dump, top string) vcd.Trace {
	t.Helper()
	x, line, err := vcd.Read(dump)
	if err != api.OK || x.Top != top {
		t.Fatalf("P6: error %d in line %d: %s", err, line, dump)
	}
	if again, err := vcd.Write(x); err != api.OK || again != dump {
		t.Fatalf("P6: error %d: %s, not %s", err, again, dump)
	}
	return x
}

// row returns the values of a trace at a time.
func row(x vcd.Trace, at int) map[string]int {
	values := map[string]int{}
	for i, v := range x.Vars {
		for _, c := range x.Values[at][i].Text() {
			values[v.Name] = values[v.Name]<<1 | int(c-'0')
		}
	}
	return values
}

// mustShow fails unless the dumps of a report are a run of the model that fails in its
// last cycle, and the signals in it.
func mustShow(t *testing.T, m *machine, r tool.Report) {
	t.Helper()
	x, y := mustRead(t, r.Witness, "witness"), mustRead(t, r.Signals, "signals")
	cycle, values := 0, make([]int, len(m.vars))
	fmt.Sscanf(r.Lines[2], "fail %d", &cycle)
	if len(x.Values) != cycle+1 || len(y.Values) != cycle+1 {
		t.Fatalf("P27.1: %d and %d times: %s", len(x.Values), len(y.Values), r.Lines)
	}
	for at := range x.Values {
		var faults []string
		ins, outs := row(x, at), row(y, at)
		for i, v := range m.vars {
			from, isThere := ins["in."+v.name]
			if at == 0 && v.isState {
				from, isThere = ins["start."+v.name]
			}
			if isThere {
				values[i] = from
			}
			if isThere != (v.isInput || at == 0 && v.isState) || at == 0 && v.isState && v.first >= 0 && from != v.first {
				t.Fatalf("P27.3: %s is %d:\n%s", v.name, from, r.Witness)
			}
		}
		_, values, faults = m.cycle(values)
		settled, _, _ := m.cycle(values)
		for i, v := range m.vars {
			if n, isThere := outs[v.name]; isThere == strings.Contains(v.name, "[") || isThere && n != settled[i] {
				t.Fatalf("P27.1: %s is %d, not %d, after cycle %d:\n%s", v.name, n, settled[i], at, r.Signals)
			}
		}
		if (len(faults) > 0) != (at == cycle) || at == cycle && !slices.Contains(faults, m.names[ins["assert"]]) {
			t.Fatalf("P27.3: %s fail in cycle %d: %s", faults, at, r.Lines)
		}
		if at == cycle && !strings.HasSuffix(r.Lines[2], " "+m.names[ins["assert"]]) {
			t.Fatalf("P27.3: %s, not %s", r.Lines[2], m.names[ins["assert"]])
		}
	}
}

// TestP27_1Dumps: the dumps of a witness are a run of the model.
func TestP27_1Dumps(t *testing.T) {
	pick := chooser(27, 8)
	failed := 0
	for range 600 {
		m := anyMachine(pick)
		r := tool.Run(one(m.text), "t.v", "top", 6, 100000)
		if strings.HasPrefix(r.Lines[2], "fail") {
			failed++
			mustShow(t, m, r)
		} else {
			mustHaveNoDump(t, r)
		}
	}
	if failed < 300 {
		t.Errorf("P27.1: only %d witnesses", failed)
	}
}

// TestP27_1Dump: all of two dumps.
func TestP27_1Dump(t *testing.T) {
	r := mustRun(t, one(strings.Replace(counter, "] q)", "] q = 2)", 1)), "t.v", "top", 2, 1000)
	head := func(top string) string {
		return "$timescale 1 ns $end\n$scope module " + top + " $end\n"
	}
	const tail = "$upscope $end\n$enddefinitions $end\n"
	if want := head("witness") + "$var wire 16 ! assert $end\n$var wire 2 \" start.q $end\n" + tail + "#0\nb0000000000000000 !\nb10 \"\n#1\n"; r.Witness != want {
		t.Errorf("P27.1: %s, not %s", r.Witness, want)
	}
	if want := head("signals") + "$var wire 2 ! q $end\n" + tail + "#0\nb11 !\n#1\nb00 !\n"; r.Signals != want {
		t.Errorf("P27.1: %s, not %s", r.Signals, want)
	}
}

// failing returns a source whose assertion fails at once.
func failing(ports, items string) string {
	return "module top (input clk" + ports + ");\n" + items + " always @(posedge clk) assert (0); endmodule\n"
}

// deep returns a source in which the path of a signal, # in the item, has so many bytes.
func deep(length int, item string) string {
	long := strings.Repeat("n", 39)
	text, name := failing("", "a0 "+long+" (.clk(clk));"), "a0"
	for length -= 40; length > 40; length -= 40 {
		next := fmt.Sprint("a", length)
		text += "module " + name + " (input clk); " + next + " " + long + " (.clk(clk)); endmodule\n"
		name = next
	}
	return text + "module " + name + " (input clk); " + strings.ReplaceAll(item, "#", strings.Repeat("n", length)) + " endmodule\n"
}

// TestP27_1NoDumps: each dump is empty if layer 26 returns an error for it.
func TestP27_1NoDumps(t *testing.T) {
	const words = "reg [0:0] m [0:63]; reg [0:0] n [0:63]; reg [0:0] o [0:63]; reg [0:0] p [0:63];"
	const register, wire = "reg #; always @(posedge clk) # <= 1;", "wire #; assign # = 1;"
	twice := func(items string) string {
		return failing("", items) + "module s (input clk); reg r; always @(posedge clk) r <= 1; endmodule\n"
	}
	inputs := func(count int) string {
		text := ""
		for i := range count {
			text += fmt.Sprintf(", input a%d", i)
		}
		return text
	}
	for _, x := range []struct {
		text             string
		witness, signals bool
	}{
		{failing("", ""), true, true},
		{failing("", words+"reg [0:0] q [0:42];"), true, true}, {failing("", words+"reg [0:0] q [0:43];"), false, true}, {failing(inputs(43), words), true, true}, {failing(inputs(44), words), false, true},
		{failing(inputs(299), ""), true, true}, {failing(inputs(300), ""), false, true},
		{deep(194, register), true, true}, {deep(195, register), false, true}, {deep(200, register), false, true}, {deep(201, register), false, false},
		// Two instances or blocks may have the same name, and then signals have.
		{twice("s u (.clk(clk)); s u (.clk(clk));"), false, false}, {twice("s u (.clk(clk)); if (1) begin : u wire r; assign r = 1; end"), true, false}, {twice("s u (.clk(clk)); s v (.clk(clk));"), true, true},
		{deep(194, wire), true, true}, {deep(200, wire), true, true}, {deep(201, wire), true, false}, {deep(240, wire), true, false},
	} {
		r := mustRun(t, one(x.text), "t.v", "top", 1, 1000)
		if !strings.HasPrefix(r.Lines[len(r.Lines)-1], "fail 0 assert#0") {
			t.Fatalf("P27.1: %s: %s", joined(r.Lines), x.text)
		}
		if (r.Witness != "") != x.witness || (r.Signals != "") != x.signals {
			t.Errorf("P27.1: dumps of %d and %d bytes: %s", len(r.Witness), len(r.Signals), x.text)
		}
	}
}
