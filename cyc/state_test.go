package cyc_test

import (
	"slices"
	"testing"

	"sluicegate/api"
	"sluicegate/bv"
	"sluicegate/cyc"
	"sluicegate/net"
)

func TestP19_1Zero(t *testing.T) {
	n := usual(t)
	n.Mems = append(n.Mems, net.Mem{Width: 128, Words: 64}, net.Mem{Width: 1, Words: 1}, net.Mem{Width: 2})
	s := cyc.Zero(n)
	if show(s.Regs) != show([]bv.Vec{vec(4, 0), vec(8, 0)}) || len(s.Words) != 4 || show(s.Words[0]) != show(vecs(4, 0, 0, 0)) {
		t.Errorf("P19.1: %v", s)
	}
	if show(s.Words[1]) != show(slices.Repeat([]bv.Vec{vec(128, 0)}, 64)) || show(s.Words[2]) != show(vecs(1, 0)) || len(s.Words[3]) != 0 {
		t.Errorf("P19.1: %v", s.Words)
	}
	for _, n := range []*net.Net{nil, {}, {Inputs: []net.Pin{{Width: 4}}}} {
		if s := cyc.Zero(n); len(s.Regs) != 0 || len(s.Words) != 0 || !cyc.Fits(n, s) || !cyc.Begins(n, s) {
			t.Errorf("P19.1: %v", s)
		}
	}
}

// TestP19_1AnyZero: Zero fits, and its bits are 0.
func TestP19_1AnyZero(t *testing.T) {
	pick := chooser(19, 1)
	for range 500 {
		n := pick.Net()
		s := cyc.Zero(n)
		if !cyc.Fits(n, s) {
			t.Fatalf("P19.1: %v\n%s", s, showNet(n))
		}
		for _, v := range slices.Concat(append(s.Words, s.Regs)...) {
			if v.Num(1) != 0 {
				t.Fatalf("P19.1: %v", s)
			}
		}
		other := cyc.Zero(n)
		spoil(other)
		if show(s) != show(cyc.Zero(n)) {
			t.Fatal("P19.1: memory is shared")
		}
	}
}

func TestP19_1Clone(t *testing.T) {
	pick := chooser(19, 2)
	for range 500 {
		n := pick.Net()
		s := stateOf(pick.Values(n))
		before := show(s)
		o := s.Clone()
		if show(o) != before {
			t.Fatalf("P19.1: %v is a copy of %v", o, s)
		}
		for i := range o.Words {
			o.Words[i] = append(o.Words[i][:len(o.Words[i])-1], vec(1, 1), vec(1, 1))
		}
		spoil(o)
		if show(s) != before {
			t.Fatal("P19.1: memory is shared")
		}
		o = s.Clone()
		spoil(s)
		if show(o) != before {
			t.Fatal("P19.1: memory is shared")
		}
	}
	room := cyc.State{Regs: make([]bv.Vec, 1, 5), Words: [][]bv.Vec{make([]bv.Vec, 1, 5)}}
	o := room.Clone()
	room.Regs, room.Words[0] = append(room.Regs, vec(1, 1)), append(room.Words[0], vec(1, 1))
	o.Regs, o.Words[0] = append(o.Regs, vec(2, 2)), append(o.Words[0], vec(2, 2))
	if room.Regs[1] != vec(1, 1) || room.Words[0][1] != vec(1, 1) {
		t.Error("P19.1: spare capacity is shared")
	}
	for _, s := range []cyc.State{{}, {Regs: []bv.Vec{}, Words: [][]bv.Vec{}}, {Regs: []bv.Vec{{}}, Words: [][]bv.Vec{nil, {}, {{}}}}} {
		if show(s.Clone()) != show(s) {
			t.Errorf("P19.1: %v is a copy of %v", s.Clone(), s)
		}
	}
}

func TestP19_1Fits(t *testing.T) {
	n := usual(t)
	for _, x := range []struct {
		what   string
		change func(s *cyc.State)
	}{
		{"no registers", func(s *cyc.State) { s.Regs = nil }},
		{"fewer registers", func(s *cyc.State) { s.Regs = s.Regs[:1] }},
		{"more registers", func(s *cyc.State) { s.Regs = append(s.Regs, vec(8, 0)) }},
		{"a wide register", func(s *cyc.State) { s.Regs[0] = vec(5, 0) }},
		{"a narrow register", func(s *cyc.State) { s.Regs[1] = vec(7, 0) }},
		{"an empty register", func(s *cyc.State) { s.Regs[1] = bv.Vec{} }},
		{"no memories", func(s *cyc.State) { s.Words = nil }},
		{"more memories", func(s *cyc.State) { s.Words = append(s.Words, nil) }},
		{"no words", func(s *cyc.State) { s.Words[0] = nil }},
		{"fewer words", func(s *cyc.State) { s.Words[0] = s.Words[0][:2] }},
		{"more words", func(s *cyc.State) { s.Words[0] = append(s.Words[0], vec(4, 0)) }},
		{"a wide word", func(s *cyc.State) { s.Words[0][0] = vec(128, 0) }},
		{"a narrow word", func(s *cyc.State) { s.Words[0][2] = vec(3, 0) }},
		{"an empty word", func(s *cyc.State) { s.Words[0][1] = bv.Vec{} }},
	} {
		s := usualState()
		if !cyc.Fits(n, s) || !cyc.Begins(n, s) {
			t.Fatalf("P19.1: %v does not fit", s)
		}
		x.change(&s)
		if cyc.Fits(n, s) || cyc.Begins(n, s) {
			t.Errorf("P19.1: %s: %v fits", x.what, s)
		}
		mustFail(t, x.what, n, s, api.ErrRange, vec(4, 0), vec(1, 0))
		mustFail(t, x.what+", and an input", n, s, api.ErrRange, vec(4, 0), vec(2, 0))
	}
	if s := usualState(); cyc.Fits(nil, s) || cyc.Fits(&net.Net{}, s) || cyc.Begins(nil, s) || cyc.Fits(n, cyc.State{}) {
		t.Error("P19.1: a state of another netlist fits")
	}
}

// TestP19_1AnyFits: a state fits a netlist if and only if it has the widths of its
// Zero.
func TestP19_1AnyFits(t *testing.T) {
	pick := chooser(19, 3)
	shape := func(s cyc.State) string {
		var widths [][]int
		for _, list := range append([][]bv.Vec{s.Regs}, s.Words...) {
			var row []int
			for _, v := range list {
				row = append(row, v.Width())
			}
			widths = append(widths, row)
		}
		return show(widths)
	}
	fitting := 0
	for range 10000 {
		n := pick.Net()
		s := stateOf(pick.Values(n))
		if pick(2) == 0 {
			s = stateOf(pick.Values(pick.Net()))
		}
		want := shape(s) == shape(cyc.Zero(n))
		if cyc.Fits(n, s) != want {
			t.Fatalf("P19.1: %v: %t\n%s", s, !want, showNet(n))
		}
		if want {
			fitting++
		}
	}
	if fitting < 500 {
		t.Errorf("P19.1: only %d states fit", fitting)
	}
}

// TestP19_1OddNets: netlists with widths and numbers of words that no vectors and
// lists have.
func TestP19_1OddNets(t *testing.T) {
	for _, words := range []int{least, -1, 0} {
		n := &net.Net{Mems: []net.Mem{{Width: 4, Words: words}}}
		s := cyc.Zero(n)
		if len(s.Words) != 1 || len(s.Words[0]) != 0 || !cyc.Fits(n, s) || cyc.Fits(n, cyc.State{Words: [][]bv.Vec{vecs(4, 0)}}) {
			t.Errorf("P19.1: %v has %d words", s, words)
		}
		mustStep(t, n, s)
	}
	for _, words := range []int{1 << 40, most} {
		n := &net.Net{Mems: []net.Mem{{Width: 4, Words: words}, {Width: 2, Words: 2}}}
		s := cyc.Zero(n)
		if cyc.Fits(n, s) || len(s.Words[1]) != 2 {
			t.Errorf("P19.1: %d words", words)
		}
		mustFail(t, "many words", n, s, api.ErrRange)
	}
	for _, width := range []int{least, -1, 129, most} {
		n := &net.Net{Regs: []net.Register{{Width: width}}, Mems: []net.Mem{{Width: width, Words: 1}}}
		if s := cyc.Zero(n); cyc.Fits(n, s) || show(s) != show(cyc.State{Regs: make([]bv.Vec, 1), Words: [][]bv.Vec{make([]bv.Vec, 1)}}) {
			t.Errorf("P19.1: %v has the width %d", s, width)
		}
	}
}

func TestP19_1Begins(t *testing.T) {
	n := usual(t)
	s := usualState()
	for x := range uint64(256) {
		s.Regs[0], s.Regs[1] = vec(4, x), vec(8, x)
		if cyc.Begins(n, s) != (x == 200) || !cyc.Fits(n, s) {
			t.Errorf("P19.1: %v", s)
		}
	}
	pick := chooser(19, 4)
	begun := 0
	for range 2000 {
		n := pick.Net()
		s := stateOf(pick.Values(n))
		want := true
		for i, x := range n.Regs {
			if x.First.Width() > 0 && pick(4) > 0 {
				s.Regs[i] = x.First
			}
			want = want && (x.First.Width() == 0 || x.First.Text() == s.Regs[i].Text())
		}
		if cyc.Begins(n, s) != want {
			t.Fatalf("P19.1: %v: %t\n%s", s, !want, showNet(n))
		}
		if want {
			begun++
		}
	}
	if begun < 300 || begun > 1900 {
		t.Errorf("P19.1: %d of 2000 states begin", begun)
	}
	n.Regs[1].First = vec(7, 72)
	if s := usualState(); cyc.Begins(n, s) || !cyc.Fits(n, s) {
		t.Error("P19.1: an initial value has another width")
	}
}
