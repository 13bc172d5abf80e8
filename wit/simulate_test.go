package wit_test

import (
	"slices"
	"testing"

	"sluicegate/api"
	"sluicegate/bmc"
	"sluicegate/bv"
	"sluicegate/cyc"
	"sluicegate/flat"
	"sluicegate/sample"
	"sluicegate/synth"
	"sluicegate/typed"
	"sluicegate/vcd"
	"sluicegate/wit"
)

// anyPicks returns what a simulator may be given.
func anyPicks(pick sample.Choice) []int {
	var list []int
	for range pick(40) {
		list = append(list, pick(41)-20)
	}
	return list
}

// mustSimulate returns the faults of a run, which has no error.
func mustSimulate(t *testing.T, d flat.Design, run bmc.Witness, picks ...int) []wit.Fault {
	t.Helper()
	before := flat.Text(d) + show(run) + show(picks)
	list, err := wit.Simulate(d, run, picks...)
	if err != api.OK {
		t.Fatalf("P26.3: error %d: %s\n%s", err, show(run), flat.Text(d))
	}
	if flat.Text(d)+show(run)+show(picks) != before {
		t.Fatal("P26.3: an argument has changed")
	}
	return list
}

// read returns a witness that was read back from its dump.
func read(t *testing.T, r synth.Result, run bmc.Witness) bmc.Witness {
	t.Helper()
	x := mustTrace(t, r.Net, run)
	text, _ := vcd.Write(x)
	y, _, _ := vcd.Read(text)
	again, err := wit.FromTrace(r.Net, y)
	if err != api.OK || show(again) != show(run) {
		t.Fatalf("P26.1: error %d, %s, not %s", err, show(again), show(run))
	}
	return again
}

// mustFail fails unless a witness fails on the simulator in its last cycle and not
// before.
func mustFail(t *testing.T, pick sample.Choice, d flat.Design, r synth.Result, a bmc.Answer) {
	t.Helper()
	run := read(t, r, a.Witness)
	want := r.Net.Asserts[run.Assert].Name
	for i := range 6 {
		var picks []int
		if i > 0 {
			picks = anyPicks(pick)
		}
		list := mustSimulate(t, d, run, picks...)
		isMeant := func(f wit.Fault) bool { return d.Asserts[f.Assert] == want }
		isEarly := func(f wit.Fault) bool { return f.Cycle != a.Cycles-1 }
		if !slices.ContainsFunc(list, isMeant) || slices.ContainsFunc(list, isEarly) {
			t.Fatalf("P26.3: %v; %s should fail in cycle %d: %s\n%s", list, want, a.Cycles-1, show(run), flat.Text(d))
		}
	}
}

// TestP26_3Sources: witnesses of sources fail on the simulator, after so many cycles.
func TestP26_3Sources(t *testing.T) {
	pick := chooser(26, 20)
	for _, x := range []struct {
		text   string
		cycles int
	}{
		{"module top (input clk, output reg [1:0] q); always @(posedge clk) begin q <= q + 1; p: assert (q != 3); end endmodule", 1},
		{"module top (input clk, output reg [1:0] q = 0); always @(posedge clk) begin q <= q + 1; p: assert (q != 3); end endmodule", 4},
		{"module top (input clk, input a, output y); reg s = 0; assign y = s ^ a; always @(posedge clk) begin s <= y; if (a) even: assert (!s); end endmodule", 2},
		{"module top (input clk, input [1:0] a); reg [3:0] m [0:3]; reg [1:0] k = 0; always @(posedge clk) begin m[a] <= 5; k <= k + 1; if (k == 1) p: assert (m[0] == 5); end endmodule", 2},
		{"module top (input clk, input push, input pop); reg [2:0] n = 0; always @(posedge clk) begin if (push && n != 5) n <= n + 1; else if (pop && n != 0) n <= n - 1; low: assert (n != 5); end endmodule", 6},
		{`module top (input clk, input [2:0] a, output [3:0] y); wire [3:0] w; count u (.clk(clk), .by(a), .n(w)); count #(.K(3)) v (.clk(clk), .by(w[2:0]), .n(y)); endmodule
		 module count #(parameter K = 1) (input clk, input [2:0] by, output reg [3:0] n = 2); always @(posedge clk) begin if (by) n <= n + by * K; ok: assert (n != 5); end endmodule`, 2},
		{`module top (input clk, input [1:0] a, input [2:0] b, output reg [2:0] q = 0); reg [2:0] m [0:2]; reg [2:0] t; reg [1:0] k = 3; reg [2:0] g = 0;
		 always @(posedge clk) begin t = m[a] + b; m[k] <= t; if (t[0]) begin m[a] <= b; q <= m[b]; low: assert (t < 6 || g < 5); end else begin q[a] <= b; t = t ^ q; end k <= t; g <= g + 1; end endmodule`, 6},
	} {
		d := design(t, x.text)
		r := mustSynth(t, d)
		answer, err := bmc.Check(r.Net, 12, 10000)
		if err != api.OK || answer.Verdict != bmc.Fail || answer.Cycles != x.cycles {
			t.Fatalf("P24.2: error %d, verdict %d after %d cycles: %s", err, answer.Verdict, answer.Cycles, x.text)
		}
		mustFail(t, pick, d, r, answer)
	}
}

// TestP26_3AnyDesign: witnesses of designs in which assertions are numbered in another
// order than in their netlists.
func TestP26_3AnyDesign(t *testing.T) {
	pick := chooser(26, 21)
	failing, later := 0, 0
	for range 1500 {
		d := pick.Design()
		if len(d.Asserts) == 0 || len(d.Sigs) > 7 {
			continue
		}
		r := mustSynth(t, d)
		answer, err := bmc.Check(r.Net, 3, 50)
		if err != api.OK || answer.Verdict != bmc.Fail {
			continue
		}
		if _, err := wit.ToTrace(r.Net, answer.Witness); err != api.OK {
			continue
		}
		mustFail(t, pick, d, r, answer)
		failing++
		if answer.Cycles > 1 {
			later++
		}
	}
	if failing < 200 || later < 3 {
		t.Errorf("P26.3: only %d designs fail, %d later than at once", failing, later)
	}
}

// inNet returns the assertions that do not hold in a run of a netlist.
func inNet(t *testing.T, d flat.Design, r synth.Result, run bmc.Witness) []wit.Fault {
	t.Helper()
	_, cycles, err := cyc.Run(r.Net, run.Start, run.Ins...)
	if err != api.OK {
		t.Fatalf("P19.3: error %d", err)
	}
	var list []wit.Fault
	for i, c := range cycles {
		for _, x := range c.Seen {
			if !x.Holds {
				list = append(list, wit.Fault{Cycle: i, Assert: slices.Index(d.Asserts, r.Net.Asserts[x.Assert].Name)})
			}
		}
	}
	return list
}

// TestP26_3AnyRun: the faults of any run are those of the netlist.
func TestP26_3AnyRun(t *testing.T) {
	pick := chooser(26, 22)
	count := 0
	for range 800 {
		d := pick.Design()
		r := mustSynth(t, d)
		v := pick.Values(r.Net)
		run := bmc.Witness{Start: cyc.State{Regs: v.Regs, Words: v.Words}, Assert: -pick(3)}
		for range pick(8) {
			run.Ins = append(run.Ins, pick.Ins(d))
		}
		want := inNet(t, d, r, run)
		count += len(want)
		for range 3 {
			if list := mustSimulate(t, d, run, anyPicks(pick)...); show(list) != show(want) {
				t.Fatalf("P26.3: %v, not %v: %s\n%s", list, want, show(run), flat.Text(d))
			}
		}
	}
	if count < 500 {
		t.Errorf("P26.3: only %d faults", count)
	}
}

// text is a source with two registers, a temporary signal, a memory, and assertions
// in two processes.
const text = `module top (input clk, input [1:0] a, output reg [3:0] q = 7); reg [3:0] m [0:2]; reg [2:0] t; reg [3:0] s;
	always @(posedge clk) begin t = t + 1; m[a] <= q; first: assert (t != 3); if (a) second: assert (m[1] == 4); end
	always @(posedge clk) begin s <= q; third: assert (s != 9); q <= a; end endmodule`

// run returns a run of text.
func run() bmc.Witness {
	return bmc.Witness{
		Start: cyc.State{Regs: []bv.Vec{vec(4, 9), vec(3, 0), vec(4, 9)}, Words: [][]bv.Vec{vecs(4, 1, 4, 2)}},
		Ins:   [][]bv.Vec{vecs(2, 1), vecs(2, 0), vecs(2, 3), vecs(2, 3)},
	}
}

// TestP26_3Faults: several assertions in several cycles, in the order in which they
// are checked.
func TestP26_3Faults(t *testing.T) {
	d := design(t, text)
	// The word 1 is written in cycle 0, and t is 3 in cycle 2.
	want := []wit.Fault{{0, 2}, {1, 2}, {2, 0}, {2, 1}, {3, 1}}
	for _, picks := range [][]int{nil, {0}, {-1, 5, 2}, {most, least, 1, 1, 1, 1}} {
		if list := mustSimulate(t, d, run(), picks...); show(list) != show(want) {
			t.Errorf("P26.3: %v, not %v", list, want)
		}
	}
	slices.Reverse(d.Procs)
	if list, want := mustSimulate(t, d, run()), []wit.Fault{{0, 2}, {1, 2}, {2, 0}, {2, 1}, {3, 1}}; show(list) != show(want) {
		t.Errorf("P26.3: %v, not %v", list, want)
	}
	both := run()
	both.Start.Regs[1] = vec(3, 2)
	if list, want := mustSimulate(t, d, both), []wit.Fault{{0, 2}, {0, 0}, {1, 2}, {2, 1}, {3, 1}}; show(list) != show(want) {
		t.Errorf("P26.3: %v, not %v", list, want)
	}
	none := run()
	none.Ins = nil
	if list := mustSimulate(t, d, none); len(list) != 0 {
		t.Errorf("P26.3: %v", list)
	}
	if list := mustSimulate(t, flat.Design{}, bmc.Witness{Ins: make([][]bv.Vec, 3), Assert: most}); len(list) != 0 {
		t.Errorf("P26.3: %v", list)
	}
	long := run()
	long.Ins = slices.Repeat([][]bv.Vec{vecs(2, 3)}, 300)
	if list := mustSimulate(t, d, long); list[len(list)-1].Cycle != 298 {
		t.Errorf("P26.3: %v", list)
	}
}

// wide returns a design whose netlist would have too many nodes: ANDs of all pairs of
// inputs.
func wide() flat.Design {
	const inputs = 200
	d := flat.Design{}
	ref := func(sig int) typed.Expr { return typed.Expr{Kind: typed.Ref, Width: 1, Sig: sig} }
	for i := range api.MaxNodes + 1 {
		d.Sigs, d.Places = append(d.Sigs, typed.Sig{Width: 1}), append(d.Places, api.Pos{})
		if i < inputs {
			d.Inputs = append(d.Inputs, i)
			continue
		}
		set := flat.Stmt{Kind: flat.Set, Target: flat.Target{Sig: i, Width: 1}, Value: typed.Two(bv.And, ref(i/inputs), ref(i%inputs))}
		d.Procs = append(d.Procs, flat.Proc{Kind: flat.Wire, Body: []flat.Stmt{set}})
	}
	return d
}

// TestP26_3Errors: the errors of Simulate, and the first one of several.
func TestP26_3Errors(t *testing.T) {
	good := design(t, text)
	loop := design(t, text)
	loop.Procs = append(slices.Clone(loop.Procs), loop.Procs[0])
	for _, x := range []struct {
		what   string
		d      flat.Design
		change func(run *bmc.Witness)
		err    api.Errno
	}{
		{"a signal with two processes", loop, func(run *bmc.Witness) {}, api.ErrDrive},
		{"that, and no state", loop, func(run *bmc.Witness) { *run = bmc.Witness{} }, api.ErrDrive},
		{"too many nodes", wide(), func(run *bmc.Witness) { *run = bmc.Witness{} }, api.ErrLimit},
		{"that, and a state that does not fit", wide(), func(run *bmc.Witness) {}, api.ErrLimit},
		{"no state", good, func(run *bmc.Witness) { run.Start = cyc.State{} }, api.ErrRange},
		{"fewer registers", good, func(run *bmc.Witness) { run.Start.Regs = run.Start.Regs[:2] }, api.ErrRange},
		{"more registers", good, func(run *bmc.Witness) { run.Start.Regs = append(run.Start.Regs, vec(1, 0)) }, api.ErrRange},
		{"registers in another order", good, func(run *bmc.Witness) { slices.Reverse(run.Start.Regs[1:]) }, api.ErrRange},
		{"no words", good, func(run *bmc.Witness) { run.Start.Words = nil }, api.ErrRange},
		{"fewer words", good, func(run *bmc.Witness) { run.Start.Words[0] = vecs(4, 1, 2) }, api.ErrRange},
		{"more words", good, func(run *bmc.Witness) { run.Start.Words[0] = vecs(4, 1, 2, 3, 4) }, api.ErrRange},
		{"words of another width", good, func(run *bmc.Witness) { run.Start.Words[0] = vecs(3, 1, 2, 3) }, api.ErrRange},
		{"that, and no cycles", good, func(run *bmc.Witness) { run.Start.Words[0], run.Ins = vecs(3, 1, 2, 3), nil }, api.ErrRange},
		{"that, and an input of another width", good, func(run *bmc.Witness) { run.Start.Words[0] = vecs(3, 1, 2, 3); run.Ins[0] = vecs(3, 1) }, api.ErrRange},
		{"no inputs", good, func(run *bmc.Witness) { run.Ins[0] = nil }, api.ErrRange},
		{"an input more in the last cycle", good, func(run *bmc.Witness) { run.Ins[3] = vecs(2, 1, 1) }, api.ErrRange},
		{"an input of another width", good, func(run *bmc.Witness) { run.Ins[3] = vecs(3, 1) }, api.ErrWidth},
		{"that, and then no inputs", good, func(run *bmc.Witness) { run.Ins[2], run.Ins[3] = vecs(3, 1), nil }, api.ErrWidth},
		{"no inputs, and then that", good, func(run *bmc.Witness) { run.Ins[3], run.Ins[2] = vecs(3, 1), nil }, api.ErrRange},
		{"no error", good, func(run *bmc.Witness) { run.Start.Regs[0] = vec(4, 3) }, api.OK},
	} {
		changed := run()
		x.change(&changed)
		list, err := wit.Simulate(x.d, changed, 1, 2)
		if err != x.err || err != api.OK && len(list) != 0 {
			t.Errorf("P26.3: %s: error %d, not %d, %v", x.what, err, x.err, list)
		}
	}
}

// TestP26_3Disturbed: Simulate returns for designs that may not be valid.
func TestP26_3Disturbed(t *testing.T) {
	pick := chooser(26, 23)
	for range 2000 {
		d := pick.Design()
		v := pick.Values(mustSynth(t, d).Net)
		run := bmc.Witness{Start: cyc.State{Regs: v.Regs, Words: v.Words}, Ins: [][]bv.Vec{pick.Ins(d), pick.Ins(d)}}
		pick.Disturb(d)
		if list, err := wit.Simulate(d, run, anyPicks(pick)...); err != api.OK && len(list) != 0 {
			t.Fatalf("P26.3: error %d, %v\n%s", err, list, flat.Text(d))
		}
	}
}
