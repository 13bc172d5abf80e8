package bmc_test

import (
	"slices"
	"testing"

	"sluicegate/api"
	"sluicegate/bmc"
	"sluicegate/bv"
	"sluicegate/cyc"
	"sluicegate/net"
)

// stored returns a netlist with a register, a memory and three assertions, and a run
// in the third cycle of which the second assertion fails: k counts from 0, m[0] <= a,
// and if k is 2, m[0] must not be 5, and if k is 3, m[0] must be 0.
func stored(t *testing.T) (*net.Net, bmc.Witness) {
	t.Helper()
	n := &net.Net{Mems: []net.Mem{{Name: "m", Width: 3, Words: 2}}}
	k, a := register(t, n, 2, vec(2, 0)), input(t, n, 3)
	n.Regs[0].Next = bin(t, n, bv.Add, k, number(t, n, vec(2, 1)))
	one, zero := number(t, n, vec(1, 1)), number(t, n, vec(1, 0))
	n.Mems[0].Ports = []net.Port{{On: one, At: zero, Val: a}}
	m := word(t, n, zero)
	is := func(number_ uint64) int { return bin(t, n, bv.Eq, k, number(t, n, vec(2, number_))) }
	claim(n, zero, zero)
	claim(n, is(2), bin(t, n, bv.Ne, m, number(t, n, vec(3, 5))))
	claim(n, is(3), bin(t, n, bv.Eq, m, number(t, n, vec(3, 0))))
	return n, bmc.Witness{
		Start:  cyc.State{Regs: []bv.Vec{vec(2, 0)}, Words: [][]bv.Vec{{vec(3, 7), vec(3, 7)}}},
		Ins:    [][]bv.Vec{{vec(3, 1)}, {vec(3, 5)}, {vec(3, 3)}},
		Assert: 1,
	}
}

// TestP24_2Replay: which witnesses are valid.
func TestP24_2Replay(t *testing.T) {
	more := func(w *bmc.Witness, count int) {
		for range count {
			w.Ins = append(w.Ins, []bv.Vec{vec(3, 5)})
		}
	}
	for _, x := range []struct {
		what   string
		change func(n *net.Net, w *bmc.Witness)
		want   bool
		err    api.Errno
	}{
		{"nothing", func(n *net.Net, w *bmc.Witness) {}, true, api.OK},
		{"other words", func(n *net.Net, w *bmc.Witness) { w.Start.Words[0] = []bv.Vec{vec(3, 0), vec(3, 1)} }, true, api.OK},
		{"an input that does not matter", func(n *net.Net, w *bmc.Witness) { w.Ins[2][0] = vec(3, 0) }, true, api.OK},
		{"an input that does", func(n *net.Net, w *bmc.Witness) { w.Ins[1][0] = vec(3, 4) }, false, api.OK},
		{"an assertion that is not checked", func(n *net.Net, w *bmc.Witness) { w.Assert = 0 }, false, api.OK},
		{"an assertion that is checked later", func(n *net.Net, w *bmc.Witness) { w.Assert = 2 }, false, api.OK},
		{"fewer cycles", func(n *net.Net, w *bmc.Witness) { w.Ins = w.Ins[:2] }, false, api.OK},
		{"an assertion that fails after another one", func(n *net.Net, w *bmc.Witness) { w.Assert = 2; more(w, 1) }, false, api.OK},
		{"that, without the other one", func(n *net.Net, w *bmc.Witness) { w.Assert, w.Ins[1][0] = 2, vec(3, 1); more(w, 1) }, true, api.OK},
		{"two failures in the last cycle", func(n *net.Net, w *bmc.Witness) { n.Asserts[0].On = n.Asserts[1].On }, true, api.OK},
		{"the other one of these", func(n *net.Net, w *bmc.Witness) { n.Asserts[0].On = n.Asserts[1].On; w.Assert = 0 }, true, api.OK},
		{"an assertion that fails again", func(n *net.Net, w *bmc.Witness) { more(w, 4) }, false, api.OK},
		{"another initial value", func(n *net.Net, w *bmc.Witness) { n.Regs[0].First = vec(2, 3) }, false, api.OK},
		{"no initial value", func(n *net.Net, w *bmc.Witness) { n.Regs[0].First = bv.Vec{} }, true, api.OK},
		{"no cycles", func(n *net.Net, w *bmc.Witness) { w.Ins = nil }, false, api.ErrRange},
		{"no such assertion", func(n *net.Net, w *bmc.Witness) { w.Assert = 3 }, false, api.ErrRange},
		{"a negative assertion", func(n *net.Net, w *bmc.Witness) { w.Assert = least }, false, api.ErrRange},
		{"a great assertion", func(n *net.Net, w *bmc.Witness) { w.Assert = most }, false, api.ErrRange},
		{"no assertions", func(n *net.Net, w *bmc.Witness) { n.Asserts = nil }, false, api.ErrRange},
		{"no registers", func(n *net.Net, w *bmc.Witness) { w.Start.Regs = nil }, false, api.ErrRange},
		{"fewer words", func(n *net.Net, w *bmc.Witness) { w.Start.Words[0] = w.Start.Words[0][:1] }, false, api.ErrRange},
		{"a register of another width", func(n *net.Net, w *bmc.Witness) { w.Start.Regs[0] = vec(3, 0) }, false, api.ErrRange},
		{"an input of another width", func(n *net.Net, w *bmc.Witness) { w.Ins[2][0] = vec(4, 5) }, false, api.ErrWidth},
		{"an input more", func(n *net.Net, w *bmc.Witness) { w.Ins[1] = append(w.Ins[1], vec(3, 5)) }, false, api.ErrRange},
		{"no inputs", func(n *net.Net, w *bmc.Witness) { w.Ins[0] = nil }, false, api.ErrRange},
		{"a netlist with an error", func(n *net.Net, w *bmc.Witness) { n.Nodes[0].Kind = 0 }, false, api.ErrInval},
		{"that, and no cycles", func(n *net.Net, w *bmc.Witness) { n.Nodes[0].Kind, w.Ins = 0, nil }, false, api.ErrRange},
		{"that, and no such assertion", func(n *net.Net, w *bmc.Witness) { n.Nodes[0].Kind, w.Assert = 0, 3 }, false, api.ErrRange},
		{"that, and a width", func(n *net.Net, w *bmc.Witness) { n.Nodes[0].Kind, w.Ins[0][0] = 0, vec(4, 5) }, false, api.ErrInval},
		{"as many cycles as there can be", func(n *net.Net, w *bmc.Witness) { more(w, api.MaxCycles-3) }, false, api.OK},
		{"one more", func(n *net.Net, w *bmc.Witness) { more(w, api.MaxCycles-2) }, false, api.ErrLimit},
		{"that, and a netlist with an error", func(n *net.Net, w *bmc.Witness) { n.Nodes[0].Kind = 0; more(w, api.MaxCycles) }, false, api.ErrLimit},
	} {
		n, w := stored(t)
		x.change(n, &w)
		before := showNet(n) + show(w)
		if got, err := bmc.Replay(n, w); got != x.want || err != x.err {
			t.Errorf("P24.2: %s: %v, error %d, not %v, %d", x.what, got, err, x.want, x.err)
		}
		if showNet(n)+show(w) != before {
			t.Errorf("P24.2: %s: something has changed", x.what)
		}
	}
	if ok, err := bmc.Replay(nil, bmc.Witness{Ins: make([][]bv.Vec, 1)}); ok || err != api.ErrRange {
		t.Errorf("P24.2: %v, error %d", ok, err)
	}
}

// TestP24_2LastCycle: a run of as many cycles as there can be fails in the last one.
func TestP24_2LastCycle(t *testing.T) {
	n := counting(t, 8, vec(8, 0), api.MaxCycles-1)
	w := bmc.Witness{Start: cyc.State{Regs: []bv.Vec{vec(8, 0)}}, Ins: make([][]bv.Vec, api.MaxCycles)}
	if ok, err := bmc.Replay(n, w); !ok || err != api.OK {
		t.Errorf("P24.2: %v, error %d", ok, err)
	}
	w.Ins = w.Ins[1:]
	if ok, err := bmc.Replay(n, w); ok || err != api.OK {
		t.Errorf("P24.2: %v, error %d", ok, err)
	}
}

// TestP24_2AnyWitness: Replay agrees with the steps of any run.
func TestP24_2AnyWitness(t *testing.T) {
	pick := chooser(24, 20)
	count := map[bool]int{}
	for range 3000 {
		n := tiny(t, pick)
		if len(n.Asserts) == 0 {
			continue
		}
		v := pick.Values(n)
		w := bmc.Witness{Start: cyc.State{Regs: v.Regs, Words: v.Words}, Assert: pick(len(n.Asserts))}
		for i, x := range n.Regs {
			if x.First.Width() > 0 && pick(8) > 0 {
				w.Start.Regs[i] = x.First
			}
		}
		for range 1 + pick(3) {
			w.Ins = append(w.Ins, pick.Values(n).Ins)
		}
		want := isValid(t, n, w)
		if got, err := bmc.Replay(n, w); got != want || err != api.OK {
			t.Fatalf("P24.2: %v, error %d, not %v: %+v\n%s", got, err, want, w, showNet(n))
		}
		count[want]++
	}
	if count[true] < 200 || count[false] < 200 {
		t.Errorf("P24.2: only %v", count)
	}
}

// TestP24_4Long: the proofs of cycles that are not easy to decide.
func TestP24_4Long(t *testing.T) {
	for width := 3; width <= 6; width++ {
		a := mustCheck(t, product(t, width), 2, 100000)
		if a.Verdict != bmc.Safe || slices.ContainsFunc(a.Proofs, func(p [][]int) bool { return len(p) < width }) {
			t.Errorf("P24.4: verdict %d, %d proofs", a.Verdict, len(a.Proofs))
		}
	}
}
