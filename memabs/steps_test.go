package memabs_test

import (
	"slices"
	"strconv"
	"testing"

	"sluicegate/api"
	"sluicegate/bv"
	"sluicegate/cyc"
	"sluicegate/net"
	"sluicegate/sample"
	"sluicegate/synth"
)

// isObserved reports whether what happens depends on writes to memories.
func isObserved(n *net.Net, s cyc.State, ins ...[]bv.Vec) bool {
	still := *n
	still.Mems = slices.Clone(n.Mems)
	for i := range still.Mems {
		still.Mems[i].Ports = nil
	}
	last, list, _ := cyc.Run(n, s, ins...)
	other, cycles, _ := cyc.Run(&still, s, ins...)
	return show(last.Regs)+show(list) != show(other.Regs)+show(cycles)
}

// TestP20_2AnyNet: for all numbers of cycles, and for fewer steps than those.
func TestP20_2AnyNet(t *testing.T) {
	pick := chooser(20, 6)
	observed := 0
	for range 600 {
		n := busy(t, pick)
		cycles := pick(api.MaxBound + 1)
		r := mustRemove(t, n, cycles)
		for _, steps := range []int{cycles, pick(cycles + 1)} {
			s, ins := stateOf(pick.Values(n)), inputs(pick, n, steps)
			mustAgree(t, n, r, s, ins...)
			if isObserved(n, s, ins...) {
				observed++
			}
		}
	}
	if observed < 400 {
		t.Errorf("P20.2: writes are observed only %d times", observed)
	}
}

// near returns a number with a width that is often near a number of words.
func near(pick sample.Choice, width, words int) bv.Vec {
	v := vec(width, uint64(max(0, words-1-pick(min(words, 3)))))
	switch pick(5) {
	case 0:
		return pick.Vec(width)
	case 1:
		return vec(width, uint64(words+pick(2)))
	case 2:
		return vec(width, uint64(pick(words)))
	case 3:
		if high, err := bv.Put(v, width-1, vec(1, 1)); err == api.OK {
			return high
		}
	}
	return v
}

// TestP20_2Addresses: numbers of words and widths of addresses of all kinds. A
// write to a word that does not exist has no effect, and such a word is 0.
func TestP20_2Addresses(t *testing.T) {
	pick := chooser(20, 7)
	widths := []int{1, 2, 3, 4, 5, 6, 7, 32, 63, 64, 65, 128}
	hits, beyond := 0, 0
	for _, words := range []int{1, 2, 3, 4, 5, 7, 8, 9, 15, 16, 17, 63, 64} {
		for _, from := range widths {
			for _, to := range widths {
				n := stored(t, 5, words, to, from)
				cycles := 1 + pick(3)
				r := mustRemove(t, n, cycles)
				for range 5 {
					var ins [][]bv.Vec
					for range cycles {
						x := []bv.Vec{vec(2, uint64(pick(4))), near(pick, to, words), pick.Vec(5), near(pick, from, words)}
						if pick(2) == 0 {
							x[3], _ = bv.Ext(x[1], from, false)
						}
						ins = append(ins, x)
					}
					s := mustAgree(t, n, r, stateOf(pick.Values(n)), ins...)
					y, _ := cyc.Outs(n, s, ins[cycles-1]...)
					x := ins[cycles-1]
					switch {
					case x[3].Num(words) == words:
						beyond++
					case x[0].Num(1) == 1 && x[1].Num(words) == x[3].Num(words) && y[0] == x[2]:
						hits++
					}
				}
			}
		}
	}
	if hits < 1000 || beyond < 1000 {
		t.Errorf("P20.2: only %d words are read that were written, and %d that do not exist", hits, beyond)
	}
}

// TestP20_2Example: the example of the chapter, for all values.
func TestP20_2Example(t *testing.T) {
	n := &net.Net{Mems: []net.Mem{{Name: "m", Width: 2, Words: 4}}}
	on, a, b, c := input(t, n, 1), input(t, n, 2), input(t, n, 2), input(t, n, 2)
	n.Mems[0].Ports = []net.Port{{On: on, At: a, Val: b}}
	n.Outs = []net.Out{{Name: "y", Node: word(t, n, 0, c)}}
	r := mustRemove(t, n, 1)
	start := cyc.State{Words: [][]bv.Vec{{vec(2, 2), vec(2, 3), vec(2, 0), vec(2, 1)}}}
	for x := range uint64(128) {
		ins := []bv.Vec{vec(1, x), vec(2, x>>1), vec(2, x>>3), vec(2, x>>5)}
		s := mustAgree(t, n, r, start, ins)
		want := start.Words[0][ins[3].Num(3)]
		if ins[0].Num(1) == 1 && ins[1] == ins[3] {
			want = ins[2]
		}
		if y, _ := cyc.Outs(n, s, ins...); y[0] != want {
			t.Errorf("P20.2: %v: %v, not %v", ins, y, want)
		}
	}
}

// TestP20_2AllStates: memories with several ports, from all states of two words and
// with all inputs in each of three steps. The greater one has a history.
func TestP20_2AllStates(t *testing.T) {
	for _, ports := range []string{"01", "10", "11", "12", "20", "012", "210", "0101"} {
		for _, words := range []int{2, 64} {
			n := &net.Net{Mems: []net.Mem{{Name: "m", Width: 1, Words: words}}}
			x, y := input(t, n, 1), input(t, n, 1)
			w := word(t, n, 0, y)
			for _, c := range ports {
				n.Mems[0].Ports = append(n.Mems[0].Ports, []net.Port{{On: x, At: y, Val: w}, {On: y, At: w, Val: x}, {On: w, At: x, Val: y}}[c-'0'])
			}
			n.Outs = []net.Out{{Name: "w", Node: w}, {Name: "v", Node: word(t, n, 0, w)}}
			n.Asserts = []net.Assert{{Name: "p", On: x, Is: w}}
			r := mustRemove(t, n, 3)
			for all := range uint64(256) {
				s := cyc.Zero(n)
				s.Words[0][0], s.Words[0][1] = vec(1, all), vec(1, all>>1)
				mustAgree(t, n, r, s, []bv.Vec{vec(1, all>>2), vec(1, all>>3)}, []bv.Vec{vec(1, all>>4), vec(1, all>>5)}, []bv.Vec{vec(1, all>>6), vec(1, all>>7)})
			}
		}
	}
}

// TestP20_2Order: the last port that writes counts, and writes of later cycles
// count more than those of earlier ones.
func TestP20_2Order(t *testing.T) {
	for _, words := range []int{1, 64} {
		n := &net.Net{Mems: []net.Mem{{Name: "m", Width: 8, Words: words}}}
		at := number(t, n, vec(1, 0))
		on := []int{input(t, n, 1), input(t, n, 1), input(t, n, 1)}
		for _, x := range on {
			n.Mems[0].Ports = append(n.Mems[0].Ports, net.Port{On: x, At: at, Val: input(t, n, 8)})
		}
		n.Outs = []net.Out{{Node: word(t, n, 0, at)}}
		r := mustRemove(t, n, 4)
		for all := range 1 << 12 {
			ins, want := ordered(all)
			s := cyc.Zero(n)
			s.Words[0][0] = vec(8, 255)
			if o := mustAgree(t, n, r, s, ins...); o.Words[0][0] != want {
				t.Fatalf("P19.2: %v, not %v", o, want)
			}
		}
	}
}

// ordered returns the inputs of four steps in which three ports write or not, as the
// bits of a number say, and what the last of these writes leaves instead of 255.
func ordered(all int) ([][]bv.Vec, bv.Vec) {
	want := vec(8, 255)
	var ins [][]bv.Vec
	for step := range 4 {
		list := make([]bv.Vec, 6)
		for i := range 3 {
			list[i], list[3+i] = vec(1, uint64(all>>(3*step+i))), vec(8, uint64(10*step+i))
			if list[i].Num(1) == 1 {
				want = list[3+i]
			}
		}
		ins = append(ins, list)
	}
	return ins, want
}

// TestP20_2Constants: addresses, conditions and values that are constants, some of
// words that do not exist.
func TestP20_2Constants(t *testing.T) {
	pick := chooser(20, 8)
	for range 700 {
		words := 1 + pick(9)
		n := &net.Net{Mems: []net.Mem{{Name: "m", Width: 3, Words: words}, {Name: "o", Width: 2, Words: 1 + pick(9)}}}
		any := func(width int) int {
			if pick(2) == 0 {
				return number(t, n, near(pick, width, words))
			}
			return input(t, n, width)
		}
		for range 1 + pick(4) {
			n.Mems[0].Ports = append(n.Mems[0].Ports, net.Port{On: any(1 + pick(2)), At: any(1 + pick(6)), Val: any(3)})
			n.Mems[1].Ports = append(n.Mems[1].Ports, net.Port{On: n.Mems[0].Ports[0].On, At: any(2 + pick(40)), Val: any(2)})
		}
		for range 3 {
			n.Outs = append(n.Outs, net.Out{Node: word(t, n, 0, any(1+pick(6)))}, net.Out{Node: word(t, n, 1, any(1+pick(6)))})
		}
		r := mustRemove(t, n, 3)
		for range 3 {
			mustAgree(t, n, r, stateOf(pick.Values(n)), inputs(pick, n, 3)...)
		}
	}
}

// TestP20_2Chains: memories whose words are addresses, conditions and values for
// each other.
func TestP20_2Chains(t *testing.T) {
	pick := chooser(20, 9)
	for range 200 {
		n := &net.Net{Mems: []net.Mem{{Name: "m", Width: 2, Words: 4}, {Name: "o", Width: 2, Words: 3}}}
		list := []int{input(t, n, 2)}
		for range 6 {
			list = append(list, word(t, n, pick(2), list[pick(len(list))]))
		}
		any := func() int { return list[pick(len(list))] }
		for i := range n.Mems {
			n.Mems[i].Ports = []net.Port{{On: any(), At: any(), Val: any()}, {On: any(), At: any(), Val: any()}}
		}
		for i := range list {
			n.Outs = append(n.Outs, net.Out{Node: list[i]})
		}
		r := mustRemove(t, n, 6)
		for range 5 {
			mustAgree(t, n, r, stateOf(pick.Values(n)), inputs(pick, n, 6)...)
		}
	}
}

// TestP20_2Large: the greatest memory, with as many cycles as there can be.
func TestP20_2Large(t *testing.T) {
	n := stored(t, api.MaxWidth, api.MaxWords, 6, 6)
	p := n.Mems[0].Ports[0]
	for range 3 {
		n.Mems[0].Ports = append(n.Mems[0].Ports, net.Port{On: input(t, n, 1), At: input(t, n, 7), Val: p.Val})
	}
	for range 5 {
		n.Outs = append(n.Outs, net.Out{Node: word(t, n, 0, input(t, n, 8))})
	}
	r := mustRemove(t, n, api.MaxBound)
	t.Logf("%d nodes", len(r.Net.Nodes))
	pick := chooser(20, 10)
	for range 20 {
		ins := inputs(pick, n, api.MaxBound)
		for _, x := range ins {
			for i, v := range x {
				if v.Width() > 4 && v.Width() < 10 {
					x[i] = vec(v.Width(), uint64(pick(4)))
				}
			}
		}
		mustAgree(t, n, r, stateOf(pick.Values(n)), ins...)
	}
}

// TestP20_2Sources: netlists of sources, some of which clear a memory in a loop.
func TestP20_2Sources(t *testing.T) {
	pick := chooser(20, 11)
	for _, text := range []string{
		"module top (input clk, input [1:0] a); reg [3:0] m [0:3]; reg [1:0] k = 0; always @(posedge clk) begin m[a] <= 5; k <= k + 1; if (k == 1) p: assert (m[0] == 5); end endmodule",
		`module top (input clk, input rst, input we, input [3:0] a, input [3:0] b, input [7:0] d, output [7:0] y, output reg [7:0] z); reg [7:0] m [0:15]; integer i; assign y = m[b];
		 always @(posedge clk) begin if (rst) for (i = 0; i < 16; i = i + 1) m[i] <= 0; else if (we) m[a] <= d; z <= m[a] ^ z; p: assert (m[3] != 7 || y[0]); end endmodule`,
		`module top (input clk, input push, input pop, input [3:0] d, output [3:0] q, output full); reg [3:0] m [0:3]; reg [1:0] r = 0; reg [1:0] w = 0; reg [2:0] n = 0; assign q = m[r]; assign full = n == 4;
		 always @(posedge clk) begin if (push && !full) begin m[w] <= d; w <= w + 1; end if (pop && n != 0) r <= r + 1; case ({push && !full, pop && n != 0}) 2: n <= n + 1; 1: n <= n - 1; default: ; endcase fits: assert (n <= 4); end endmodule`,
		`module top (input clk, input [2:0] a, input [1:0] v, output reg [1:0] q); reg [1:0] m [0:4]; reg [1:0] o [0:0]; reg [1:0] t;
		 always @(posedge clk) begin m[a] <= v; t = m[a]; if (v == t) m[t] <= 3; else begin m[0] <= m[v]; if (a) m[v] <= t; end q <= m[0]; o[a] <= q; last: assert (o[0] == m[4]); end endmodule`,
	} {
		d, ok := sample.Elaborated(text)
		r, _, err := synth.Synth(d)
		if !ok || err != api.OK {
			t.Fatalf("P18.1: error %d: %s", err, text)
		}
		for cycles := range api.MaxBound + 1 {
			x := mustRemove(t, r.Net, cycles)
			for range 10 {
				mustAgree(t, r.Net, x, stateOf(pick.Values(r.Net)), inputs(pick, r.Net, cycles)...)
			}
		}
	}
}

// TestP20_2Small: there is room for all netlists of at most 24 nodes of at most 4
// bits with memories of at most 2 bits, whatever the numbers of ports and cycles.
func TestP20_2Small(t *testing.T) {
	pick := chooser(20, 12)
	for range 100 {
		n := &net.Net{Mems: []net.Mem{{Name: "m", Width: 1, Words: 2}}}
		list := []int{input(t, n, 4), input(t, n, 1)}
		any := func() int { return list[pick(len(list))] }
		for len(n.Nodes) < 20 {
			list = append(list, word(t, n, 0, any()))
			list = append(list, add(t, n, net.Node{Kind: net.Pick, Width: 1, Args: []int{any(), any()}}))
		}
		bits := slices.DeleteFunc(slices.Clone(list), func(i int) bool { return n.Nodes[i].Width != 1 })
		for range 1 + pick(20+580*pick(2)) {
			n.Mems[0].Ports = append(n.Mems[0].Ports, net.Port{On: any(), At: any(), Val: bits[pick(len(bits))]})
		}
		for i := range list {
			n.Outs = append(n.Outs, net.Out{Name: strconv.Itoa(i), Node: list[i]})
		}
		r := mustRemove(t, n, 4)
		mustAgree(t, n, r, stateOf(pick.Values(n)), inputs(pick, n, 4)...)
		if mustRemove(t, n, api.MaxBound); len(r.Net.Nodes) > api.MaxNodes/4 {
			t.Fatalf("P20.2: %d nodes", len(r.Net.Nodes))
		}
	}
}
