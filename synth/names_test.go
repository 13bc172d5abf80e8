package synth_test

import (
	"math/rand/v2"
	"reflect"
	"testing"

	"sluicegate/bv"
	"sluicegate/flat"
	"sluicegate/net"
	"sluicegate/sample"
	"sluicegate/synth"
	"sluicegate/typed"
)

// TestP18_1Names: what is in the lists of a netlist, and in which order.
func TestP18_1Names(t *testing.T) {
	d := design(t, `module top (input clk, input [1:0] a, output reg [2:0] q, input b, output y);
		reg [3:0] m [0:4]; wire w; reg [1:0] s = 2; reg c; reg [4:0] t = -1; reg [0:0] m2 [0:0];
		always @(posedge clk) begin m2[0] <= b; q <= s; zero: assert (q == 0); if (b) one: assert (a); else assert (b); end
		always @* c = a[0]; assign y = c ^ w; assign w = !b;
		always @(posedge clk) begin t = t + 1; s <= t; m[a] <= q; two: assert (t); m[0] <= 1; end endmodule`)
	r := mustSynth(t, d)
	n := r.Net
	for _, x := range []struct{ what, got, want string }{
		{"Inputs", show(n.Inputs), "[{Name:a Width:2} {Name:b Width:1}]"},
		{"Regs", names(n.Regs, func(x net.Register) string { return x.Name + show(x.Width) + "=" + x.First.Text() }), "q3= s2=10 t5=11111"},
		{"Mems", names(n.Mems, func(x net.Mem) string { return x.Name + show([]int{x.Width, x.Words, len(x.Ports)}) }), "m[4 5 2] m2[1 1 1]"},
		{"Outs", names(n.Outs, func(x net.Out) string { return x.Name }), "a q b y w s c t"},
		{"Asserts", names(n.Asserts, func(x net.Assert) string { return x.Name }), "zero#0 one#1 assert#2 two#3"},
		{"the signals of registers", show(r.Regs), "[1 6 8]"},
		{"the signals of memories", show(r.Mems), "[4 9]"},
	} {
		if x.got != x.want {
			t.Errorf("P18.1: %s: %s, not %s", x.what, x.got, x.want)
		}
	}
	outs := 0
	for sig, i := range r.Sigs {
		if isMemory := d.Sigs[sig].Words > 0; isMemory != (i == -1) {
			t.Errorf("P18.1: the node of signal %d is %d", sig, i)
		} else if !isMemory {
			if n.Outs[outs].Node != i {
				t.Errorf("P18.1: output %d is node %d, not %d", outs, n.Outs[outs].Node, i)
			}
			outs++
		}
	}
	if len(r.Sigs) != len(d.Sigs) || outs != len(n.Outs) {
		t.Errorf("P18.1: %v", r.Sigs)
	}
}

// mustBeNamed fails unless the lists of a netlist are as the roles of the signals
// require.
func mustBeNamed(t *testing.T, d flat.Design, r synth.Result) {
	t.Helper()
	info, _, _ := flat.Analyze(d)
	want := synth.Result{Net: &net.Net{}}
	for _, sig := range d.Inputs {
		want.Net.Inputs = append(want.Net.Inputs, net.Pin{Name: d.Sigs[sig].Name, Width: d.Sigs[sig].Width})
	}
	first := map[int]bv.Vec{}
	for _, x := range d.Starts {
		first[x.Sig] = x.Val
	}
	for sig, x := range d.Sigs {
		if info.Roles[sig] == flat.Memory {
			want.Mems = append(want.Mems, sig)
			ports := r.Net.Mems[len(want.Net.Mems)].Ports
			want.Net.Mems = append(want.Net.Mems, net.Mem{Name: x.Name, Width: x.Width, Words: x.Words, Ports: ports})
			want.Sigs = append(want.Sigs, -1)
			continue
		}
		if info.Roles[sig] == flat.Reg || info.Roles[sig] == flat.Temp {
			want.Regs = append(want.Regs, sig)
			next := r.Net.Regs[len(want.Net.Regs)].Next
			want.Net.Regs = append(want.Net.Regs, net.Register{Name: x.Name, Width: x.Width, Next: next, First: first[sig]})
		}
		want.Sigs = append(want.Sigs, r.Sigs[sig])
		want.Net.Outs = append(want.Net.Outs, net.Out{Name: x.Name, Node: r.Sigs[sig]})
	}
	for _, p := range d.Procs {
		if p.Kind == flat.Clocked {
			want.Net.Asserts = append(want.Net.Asserts, asserts(d, p.Body)...)
		}
	}
	for i := range r.Net.Asserts {
		want.Net.Asserts[i].On, want.Net.Asserts[i].Is = r.Net.Asserts[i].On, r.Net.Asserts[i].Is
	}
	got := synth.Result{Net: &net.Net{Inputs: r.Net.Inputs, Regs: r.Net.Regs, Mems: r.Net.Mems, Outs: r.Net.Outs, Asserts: r.Net.Asserts}, Sigs: r.Sigs, Regs: r.Regs, Mems: r.Mems}
	if showResult(got) != showResult(want) {
		t.Fatalf("P18.1: %s, not\n%s\n%s", showResult(got), showResult(want), flat.Text(d))
	}
}

// asserts returns the assertions in statements.
func asserts(d flat.Design, list []flat.Stmt) []net.Assert {
	var found []net.Assert
	for _, s := range list {
		if s.Kind == flat.Assert {
			found = append(found, net.Assert{Name: d.Asserts[s.Assert]})
		}
		found = append(found, asserts(d, s.Body)...)
		found = append(found, asserts(d, s.Else)...)
	}
	return found
}

func TestP18_1AnyNames(t *testing.T) {
	pick := sample.Choice(rand.New(rand.NewPCG(18, 1)).IntN)
	for range 1000 {
		d := pick.Design()
		mustBeNamed(t, d, mustSynth(t, d))
	}
}

// TestP18_1Asserts: names are those of the numbers that statements have.
func TestP18_1Asserts(t *testing.T) {
	bit := ref(0, 1)
	d := flat.Design{Sigs: sigs(1, 1), Inputs: []int{0}, Asserts: []string{"zero", "one", "two", "unused"}, Procs: []flat.Proc{
		proc(flat.Clocked, assert(2, bit), branch(bit, []flat.Stmt{assert(0, bit)}, []flat.Stmt{assert(2, bit)})),
		proc(flat.Clocked, assert(1, bit)),
	}}
	r := mustSynth(t, d)
	if got := names(r.Net.Asserts, func(x net.Assert) string { return x.Name }); got != "two zero two one" {
		t.Errorf("P18.1: %s", got)
	}
	mustCompute(t, d, r, nil, []bv.Vec{vec(1, 0)})
	mustCompute(t, d, r, nil, []bv.Vec{vec(1, 1)})
}

// TestP18_1Nothing: a design may be empty, and signals may have no name.
func TestP18_1Nothing(t *testing.T) {
	r := mustSynth(t, flat.Design{})
	if showResult(r) != showResult(synth.Result{Net: &net.Net{}}) {
		t.Errorf("P18.1: %s", showResult(r))
	}
	d := flat.Design{Sigs: []typed.Sig{{Width: 128}, {Width: 128, Words: 64}}, Inputs: []int{0}, Procs: []flat.Proc{{}, proc(flat.Clocked), proc(flat.Wire)}}
	if r := mustSynth(t, d); show(r.Sigs) != "[0 -1]" || len(r.Net.Mems) != 1 || len(r.Net.Mems[0].Ports) != 0 {
		t.Errorf("P18.1: %s", showResult(r))
	}
}

// TestP18_1Memory: a design is neither changed nor kept, results do not depend on
// each other, and nodes can be added to them.
func TestP18_1Memory(t *testing.T) {
	for seed := range uint64(300) {
		pick := sample.Choice(rand.New(rand.NewPCG(18, 100+seed)).IntN)
		d := pick.Design()
		before := show(d)
		first, second := mustSynth(t, d), mustSynth(t, d)
		text := showResult(first)
		if showResult(second) != text || !reflect.DeepEqual(first, second) {
			t.Fatal("P18.1: two results for the same design")
		}
		for _, list := range [][]int{second.Sigs, second.Regs, second.Mems} {
			for i := range list {
				list[i] = -7
			}
		}
		for _, x := range second.Net.Nodes {
			clear(x.Args)
		}
		for _, m := range second.Net.Mems {
			clear(m.Ports)
		}
		clear(second.Net.Nodes)
		clear(second.Net.Regs)
		if show(d) != before || showResult(first) != text {
			t.Fatal("P18.1: memory is shared")
		}
		pick.Disturb(d)
		clear(d.Sigs)
		if showResult(first) != text {
			t.Fatal("P18.1: the design is kept")
		}
		count := len(first.Net.Nodes)
		for i, x := range first.Net.Nodes {
			if j, err := first.Net.Add(x); i != j || err != 0 || len(first.Net.Nodes) != count {
				t.Fatalf("P17.1: node %d is %d, error %d", i, j, err)
			}
		}
	}
}
