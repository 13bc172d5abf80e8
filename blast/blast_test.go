package blast_test

import (
	"math/rand/v2"
	"reflect"
	"testing"

	"sluicegate/aig"
	"sluicegate/api"
	"sluicegate/blast"
	"sluicegate/bv"
	"sluicegate/memabs"
	"sluicegate/net"
	"sluicegate/sample"
)

// withoutMemories returns any netlist, from which memories were removed.
func withoutMemories(t *testing.T, pick sample.Choice) *net.Net {
	t.Helper()
	r, err := memabs.Remove(pick.Net(), pick(3))
	if err != api.OK {
		t.Fatalf("P20.1: error %d", err)
	}
	return r.Net
}

// TestP22_1AnyNet: netlists of all kinds of nodes. Those that are too large are few.
func TestP22_1AnyNet(t *testing.T) {
	pick := chooser(22, 10)
	large, outs, nexts, asserts := 0, 0, 0, 0
	for range 2500 {
		n := withoutMemories(t, pick)
		if _, err := blast.Blast(n); err == api.ErrLimit {
			large++
			continue
		}
		r := mustBlast(t, n)
		for range 10 {
			mustAgree(t, n, r, pick.Values(n))
		}
		outs, nexts, asserts = outs+len(r.Outs), nexts+len(r.Next), asserts+len(r.On)
	}
	if large > 100 || outs < 2000 || nexts < 2000 || asserts < 1500 {
		t.Errorf("P22.1: %d netlists are too large; %d outputs, %d registers, %d assertions", large, outs, nexts, asserts)
	}
}

// TestP22_1Registers: what registers receive depends on inputs and on registers.
func TestP22_1Registers(t *testing.T) {
	n := &net.Net{}
	a, q, p := input(t, n, 2), register(t, n, 2), register(t, n, 3)
	n.Regs[0].Next = bin(t, n, bv.Add, q, a)
	n.Regs[1].Next = wide(t, n, bin(t, n, bv.Ult, q, a), 3, true)
	n.Regs[1].First = vec(3, 5)
	out(n, q)
	out(n, p)
	out(n, a)
	r := mustBlast(t, n)
	for all := range uint64(128) {
		mustAgree(t, n, r, net.Values{Ins: []bv.Vec{vec(2, all)}, Regs: []bv.Vec{vec(2, all>>2), vec(3, all>>4)}})
	}
	if show(r.Outs) != show([][]int{r.Regs[0], r.Regs[1], r.Ins[0]}) {
		t.Errorf("P22.1: %v, not the literals of registers and inputs", r.Outs)
	}
}

// TestP22_1Asserts: On and Is may have any width.
func TestP22_1Asserts(t *testing.T) {
	n := &net.Net{}
	a, b := input(t, n, 1), input(t, n, 3)
	q := register(t, n, 2)
	zero, four := number(t, n, vec(2, 0)), number(t, n, vec(3, 4))
	list := []int{a, b, q, zero, four}
	for _, on := range list {
		for _, is := range list {
			n.Asserts = append(n.Asserts, net.Assert{Name: "p", On: on, Is: is})
		}
	}
	r := mustBlast(t, n)
	for all := range uint64(64) {
		mustAgree(t, n, r, net.Values{Ins: []bv.Vec{vec(1, all), vec(3, all>>1)}, Regs: []bv.Vec{vec(2, all>>4)}})
	}
	if r.On[15] != aig.No || r.Is[24] != aig.Yes || r.On[0] != 2 {
		t.Errorf("P22.1: %v, %v", r.On, r.Is)
	}
}

// TestP22_1Example: the example of the chapter.
func TestP22_1Example(t *testing.T) {
	n := &net.Net{}
	out(n, bin(t, n, bv.And, input(t, n, 2), input(t, n, 2)))
	r := mustBlast(t, n)
	if r.Graph.Len() != 7 || len(r.Outs[0]) != 2 {
		t.Fatalf("P22.1: %s", showResult(r))
	}
	for i, want := range [][2]int{{2, 6}, {4, 8}} {
		lit := r.Outs[0][i]
		if a, b, isAnd := r.Graph.Fan(lit / 2); lit%2 == 1 || a != want[0] || b != want[1] || !isAnd {
			t.Errorf("P22.1: bit %d is the AND of %d and %d", i, a, b)
		}
	}
}

// TestP22_1Empty: a netlist without anything, and one that could not be made.
func TestP22_1Empty(t *testing.T) {
	for _, n := range []*net.Net{{}, nil} {
		r, err := blast.Blast(n)
		if err != api.OK || r.Graph == nil || showResult(r) != showResult(blast.Result{Graph: aig.New()}) {
			t.Errorf("P22.1: error %d, %+v", err, r)
		}
	}
}

// mustReject fails unless Blast returns an error and nothing else.
func mustReject(t *testing.T, what string, n *net.Net, want api.Errno) {
	t.Helper()
	if r, err := blast.Blast(n); err != want || !reflect.ValueOf(r).IsZero() {
		t.Errorf("P22.1: %s: error %d, not %d, %+v", what, err, want, r)
	}
}

// usual returns a netlist with two inputs, a register, an output and an assertion.
func usual(t *testing.T) *net.Net {
	t.Helper()
	n := &net.Net{}
	x, y, q := input(t, n, 4), input(t, n, 4), register(t, n, 4)
	sum := bin(t, n, bv.Add, x, y)
	n.Regs[0].Next = bin(t, n, bv.Mul, sum, q)
	out(n, sum)
	n.Asserts = []net.Assert{{Name: "p", On: x, Is: y}}
	return n
}

// TestP22_1Errors: memories come before the errors of Check, whatever their numbers
// are.
func TestP22_1Errors(t *testing.T) {
	memory := func(n *net.Net) { n.Mems = []net.Mem{{Name: "m", Width: 1, Words: 1}} }
	wordless := func(n *net.Net) { n.Mems = []net.Mem{{}} }
	large := func(n *net.Net) { n.Inputs = append(n.Inputs, net.Pin{Width: api.MaxGates}) }
	for _, x := range []struct {
		what   string
		change func(n *net.Net)
		want   api.Errno
	}{
		{"no change", func(n *net.Net) {}, api.OK},
		{"no kind", func(n *net.Net) { n.Nodes[1].Kind = 12 }, api.ErrInval},
		{"no argument", func(n *net.Net) { n.Nodes[3].Args[0] = 99 }, api.ErrRange},
		{"a word", func(n *net.Net) {
			n.Nodes = append(n.Nodes, net.Node{Kind: net.Word, Width: 1, Args: []int{0}})
		}, api.ErrRange},
		{"a width", func(n *net.Net) { n.Nodes[1].Width = 3 }, api.ErrWidth},
		{"a width of First", func(n *net.Net) { n.Regs[0].First = vec(5, 0) }, api.ErrWidth},
		{"a width of a register", func(n *net.Net) { n.Regs = append(n.Regs, net.Register{Width: 5}) }, api.ErrWidth},
		{"no Next", func(n *net.Net) { n.Regs[0].Next = -1 }, api.ErrRange},
		{"no output", func(n *net.Net) { n.Outs[0].Node = 5 }, api.ErrRange},
		{"no On", func(n *net.Net) { n.Asserts[0].On = most }, api.ErrRange},
		{"no Is", func(n *net.Net) { n.Asserts[0].Is = least }, api.ErrRange},
	} {
		n := usual(t)
		x.change(n)
		if x.want == api.OK {
			mustBlast(t, n)
		} else {
			mustReject(t, x.what, n, x.want)
		}
		for what, more := range map[string]func(n *net.Net){"a memory": memory, "an odd memory": wordless} {
			more(n)
			mustReject(t, x.what+", and "+what, n, api.ErrKind)
		}
		n.Mems = nil
		large(n)
		want := x.want
		if want == api.OK {
			want = api.ErrLimit
		}
		mustReject(t, x.what+", and too many inputs", n, want)
		memory(n)
		mustReject(t, x.what+", and a memory, and too many inputs", n, api.ErrKind)
	}
}

// TestP22_1Limit: exactly as many nodes as are permitted, and one more.
func TestP22_1Limit(t *testing.T) {
	for what, n := range map[string]*net.Net{"an empty netlist": {}, "a netlist": usual(t)} {
		room := api.MaxGates - mustBlast(t, n).Graph.Len()
		n.Inputs = append(n.Inputs, net.Pin{Name: "wide", Width: room})
		if r := mustBlast(t, n); r.Graph.Len() != api.MaxGates {
			t.Errorf("P22.1: %s: %d nodes", what, r.Graph.Len())
		}
		for _, width := range []int{room + 1, room + 2, api.MaxGates, 1 << 40, most} {
			n.Inputs[len(n.Inputs)-1].Width = width
			mustReject(t, what, n, api.ErrLimit)
		}
		n.Inputs[len(n.Inputs)-1].Width = room
		n.Inputs = append(n.Inputs, net.Pin{Width: 1})
		mustReject(t, what, n, api.ErrLimit)
		n.Inputs[len(n.Inputs)-1].Width = 0
		mustBlast(t, n)
	}
}

// TestP22_1Large: more gates than are permitted, in one node and in many.
func TestP22_1Large(t *testing.T) {
	n := &net.Net{}
	x, y := input(t, n, api.MaxWidth), input(t, n, api.MaxWidth)
	last := bin(t, n, bv.Add, x, y)
	for range 100 {
		last = bin(t, n, bv.Add, bin(t, n, bv.Xor, last, x), y)
	}
	out(n, last)
	n.Asserts = []net.Assert{{On: last, Is: last}}
	mustReject(t, "many sums", n, api.ErrLimit)
	n = &net.Net{}
	x, y = register(t, n, api.MaxWidth), register(t, n, api.MaxWidth)
	n.Regs[0].Next = bin(t, n, bv.Srem, x, y)
	mustReject(t, "a remainder", n, api.ErrLimit)
	n = &net.Net{}
	for range 500 {
		register(t, n, api.MaxWidth)
	}
	mustReject(t, "many registers", n, api.ErrLimit)
}

// TestP22_1Disturbed: Blast returns for netlists that may not be valid.
func TestP22_1Disturbed(t *testing.T) {
	pick := chooser(22, 11)
	blasted, failed := 0, 0
	for range 5000 {
		n := withoutMemories(t, pick)
		v := pick.Values(n)
		pick.DisturbNet(n)
		want := n.Check()
		r, err := blast.Blast(n)
		switch {
		case err == api.OK && want == api.OK:
			blasted++
			mustAgree(t, n, r, v)
		case want != api.OK && err != want || want == api.OK && err != api.ErrLimit || !reflect.ValueOf(r).IsZero():
			t.Fatalf("P22.1: error %d, not %d, %+v\n%s", err, want, r, showNet(n))
		default:
			failed++
		}
	}
	if blasted < 500 || failed < 1000 {
		t.Errorf("P22.1: only %d results, and %d errors", blasted, failed)
	}
}

// TestP22_1Memory: results do not depend on each other, on the netlist, or on
// anything else, and no two lists share memory.
func TestP22_1Memory(t *testing.T) {
	for seed := range uint64(300) {
		n := withoutMemories(t, rand.New(rand.NewPCG(22, 100+seed)).IntN)
		first, err := blast.Blast(n)
		second, _ := blast.Blast(n)
		if err == api.ErrLimit {
			continue
		}
		text := showResult(first)
		if showResult(second) != text || !reflect.DeepEqual(first, second) {
			t.Fatal("P22.1: two results for the same netlist")
		}
		before := showNet(n)
		spoil(second)
		if showNet(n) != before || showResult(first) != text {
			t.Fatal("P22.1: memory is shared")
		}
	}
	n := usual(t)
	for range 3 {
		out(n, 0)
		out(n, n.Outs[0].Node)
		n.Regs = append(n.Regs, n.Regs[0])
	}
	r := mustBlast(t, n)
	for _, lists := range [][][]int{r.Ins, r.Regs, r.Next, r.Outs} {
		for i := range lists {
			before := showResult(r)
			kept := lists[i]
			lists[i] = append([]int(nil), kept...)
			clear(kept[:cap(kept)])
			if showResult(r) != before {
				t.Fatalf("P22.1: a list shares memory\n%s\n%s", showResult(r), before)
			}
		}
	}
}

// spoil changes everything in a result.
func spoil(r blast.Result) {
	r.Graph.Input()
	for _, lists := range [][][]int{r.Ins, r.Regs, r.Next, r.Outs} {
		for _, list := range lists {
			clear(list)
		}
		clear(lists)
	}
	clear(r.On)
	clear(r.Is)
}

// TestP22_3Order: inputs without bits, of odd widths, and without nodes.
func TestP22_3Order(t *testing.T) {
	n := &net.Net{}
	input(t, n, 3)
	n.Inputs = append(n.Inputs, net.Pin{Name: "none"}, net.Pin{Name: "less", Width: -5}, net.Pin{Name: "least", Width: least}, net.Pin{Name: "unused", Width: 2}, net.Pin{Name: "odd", Width: 130})
	q := register(t, n, 2)
	x := input(t, n, 2)
	p := register(t, n, 1)
	out(n, bin(t, n, bv.Xor, q, x))
	n.Asserts = []net.Assert{{On: p, Is: p}}
	r := mustBlast(t, n)
	if r.Graph.Inputs() != 3+2+130+2+3 || show(r.Ins[0]) != "[2 4 6]" || show(r.Ins[4]) != "[8 10]" || show(r.Ins[6]) != "[272 274]" || show(r.Regs) != "[[276 278] [280]]" {
		t.Errorf("P22.3: %v, %v", r.Ins, r.Regs)
	}
	for i := range 3 {
		if len(r.Ins[1+i]) != 0 {
			t.Errorf("P22.3: %v", r.Ins)
		}
	}
	inputs := make([]bool, r.Graph.Inputs())
	for i := range inputs {
		inputs[i] = true
		vals := r.Graph.Eval(inputs...)
		inputs[i] = false
		count := 0
		for _, lists := range [][][]int{r.Ins, r.Regs} {
			for _, list := range lists {
				for _, lit := range list {
					if aig.Is(vals, lit) != (count == i) {
						t.Fatalf("P22.3: input %d of the graph, literal %d", i, lit)
					}
					count++
				}
			}
		}
	}
}
