package memabs

import (
	"math/bits"
	"slices"
	"strconv"

	"sluicegate/api"
	"sluicegate/bv"
	"sluicegate/maker"
	"sluicegate/net"
)

// memory is what a builder knows of a memory of old.
type memory struct {
	net.Mem         // its Ports are those whose writes may remain
	first   []int   // the nodes of the initial words
	writes  []write // its history; empty until it is read
	isSmall bool    // it has registers for its words instead of a history
	latest  []int   // the nodes of these registers; empty until it is read
}

// newMemory returns what is known of a memory that so far has only these initial
// words, and is read so many times.
func newMemory(m net.Mem, first []int, reads int) memory {
	m.Ports = lasting(m.Ports)
	return memory{Mem: m, first: first, isSmall: isSmall(len(first), len(m.Ports), reads)}
}

// reads returns how many nodes of old read each memory.
func (b *builder) reads() []int {
	counts := make([]int, len(b.old.Mems))
	for _, x := range b.old.Nodes {
		if x.Kind == net.Word {
			counts[x.Num]++
		}
	}
	return counts
}

// isSmall reports whether registers for the words of a memory need less than a
// history: about two nodes for each word that each port may write and each read may
// have, instead of three for each write that each read may have, of which there are
// more from cycle to cycle. The number of cycles does not count, because Start finds
// that out by the number of registers, which must not be less for more cycles.
func isSmall(words, ports, reads int) bool { return 2*words*(ports+reads) <= 9*ports*reads }

// lasting returns those ports whose writes may remain. If two ports have the same
// condition and the same address, only that of the last one does.
func lasting(ports []net.Port) []net.Port {
	type place struct{ on, at int }
	seen := map[place]int{}
	var list []net.Port
	for _, p := range slices.Backward(ports) {
		x := place{on: p.On, at: p.At}
		if seen[x] == 0 {
			list = append(list, p)
		}
		seen[x]++
	}
	slices.Reverse(list)
	return list
}

// words returns the nodes of the words of a memory without a history: the
// initial ones before the first step, and then those of its registers.
func (b *builder) words(m *memory) []int {
	if b.cycles == 0 {
		return m.first
	}
	if m.latest == nil {
		for at := range m.first {
			m.latest = append(m.latest, b.zeroRegister("now."+wordName(m.Mem, at), m.Width))
		}
	}
	var list []int
	for at, first := range m.first {
		list = append(list, b.Choose(b.begun(), m.latest[at], first))
	}
	return list
}

// begun returns a node that is 0 before the first step.
func (b *builder) begun() int {
	if b.hasBegun == maker.None {
		b.hasBegun = b.zeroRegister("begun", 1)
		b.receive(b.hasBegun, b.Number(1, 1))
	}
	return b.hasBegun
}

// zeroRegister adds a register whose initial value is 0, and returns its node.
func (b *builder) zeroRegister(name string, width int) int {
	zero, _ := bv.New(width)
	return b.Register(net.Register{Name: name, Width: width, First: zero})
}

// wordName returns the name of a word of a memory.
func wordName(m net.Mem, at int) string { return m.Name + "[" + strconv.Itoa(at) + "]" }

// keepWords makes the registers for the words of a memory receive what its ports
// leave there.
func (b *builder) keepWords(m *memory) {
	if m.latest == nil {
		return
	}
	for at, word := range b.words(m) {
		if b.Err != api.OK {
			return
		}
		for _, p := range m.Ports {
			if on := b.writesTo(p, at); on != maker.None {
				word = b.Choose(on, b.nodes[p.Val], word)
			}
		}
		b.receive(m.latest[at], word)
	}
}

// writesTo returns whether a port writes a word, or None if it never does.
func (b *builder) writesTo(p net.Port, word int) int {
	on, at := b.nodes[p.On], b.nodes[p.At]
	x := b.old.Nodes[p.At]
	switch {
	case x.Kind != net.Const && x.Width >= bits.Len(uint(word)):
		return b.Both(b.Truth(on), b.Bin(bv.Eq, at, b.Number(x.Width, uint64(word))))
	case x.Kind == net.Const && x.Val.Num(word+1) == word:
		return b.Truth(on)
	}
	return maker.None
}
