package cyc

import (
	"slices"

	"sluicegate/bv"
	"sluicegate/net"
)

// mostWords is how many words there is room for in a state: with more of them, it
// would exceed what a result may consist of.
const mostWords = 1 << 26

// State contains the values of registers and of the words of memories.
type State struct {
	Regs  []bv.Vec
	Words [][]bv.Vec
}

// Zero returns the state of a netlist in which all bits are 0. A memory for which
// there is no room has no words.
func Zero(n *net.Net) State {
	n = given(n)
	var s State
	for _, r := range n.Regs {
		s.Regs = append(s.Regs, zero(r.Width))
	}
	room := mostWords
	for _, m := range n.Mems {
		count := wordCount(m)
		if count > room {
			count = 0
		}
		room -= count
		s.Words = append(s.Words, slices.Repeat([]bv.Vec{zero(m.Width)}, count))
	}
	return s
}

// Clone returns a copy.
func (s State) Clone() State {
	o := State{Regs: slices.Clone(s.Regs)}
	for _, words := range s.Words {
		o.Words = append(o.Words, slices.Clone(words))
	}
	return o
}

// Fits reports whether s is a state of a netlist.
func Fits(n *net.Net, s State) bool {
	n = given(n)
	if len(s.Regs) != len(n.Regs) || len(s.Words) != len(n.Mems) {
		return false
	}
	isReg := func(i int) bool { return s.Regs[i].Width() == n.Regs[i].Width }
	isMem := func(i int) bool {
		words, m := s.Words[i], n.Mems[i]
		return len(words) == wordCount(m) && every(len(words), func(at int) bool { return words[at].Width() == m.Width })
	}
	return every(len(n.Regs), isReg) && every(len(n.Mems), isMem)
}

// Begins reports whether s is a state of a netlist in which each register with an
// initial value has this value.
func Begins(n *net.Net, s State) bool {
	n = given(n)
	return Fits(n, s) && every(len(n.Regs), func(i int) bool {
		first := n.Regs[i].First
		return first.Width() == 0 || bv.Equal(first, s.Regs[i])
	})
}

// wordCount returns the number of words of a memory. A negative one is none.
func wordCount(m net.Mem) int { return max(m.Words, 0) }

// every reports whether a condition holds for all numbers from 0 to count-1.
func every(count int, holds func(i int) bool) bool {
	for i := range count {
		if !holds(i) {
			return false
		}
	}
	return true
}

// zero returns a vector of zeros, or the zero Vec if there is none of that width.
func zero(width int) bv.Vec {
	v, _ := bv.New(width)
	return v
}
