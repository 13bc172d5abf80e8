package memabs

import (
	"slices"
	"strconv"

	"sluicegate/bv"
	"sluicegate/maker"
	"sluicegate/net"
)

// The elements of a write.
const (
	performed = iota
	address
	value
)

// write is one of a write port in a previous cycle: the nodes for its elements.
type write [3]int

// source is what an element of writes is computed from: a node of old and, for an
// address, the number of words. Whether a write is performed may depend on its
// address as well.
type source struct{ element, node, at, words int }

// sources returns those of the writes of a port to one of so many words.
func (b *builder) sources(p net.Port, words int) [3]source {
	on := source{element: performed, node: p.On, at: maker.None}
	if !isCertain(b.old.Nodes[p.At], words) {
		on.at, on.words = p.At, words
	}
	at := source{element: address, node: p.At, at: maker.None, words: words}
	val := source{element: value, node: p.Val, at: maker.None}
	return [3]source{performed: on, address: at, value: val}
}

// alike returns how many writes at the beginning of a list differ only in their
// addresses, as those do that clear a memory in a loop. One choice is enough for
// all of them.
func alike(list []write) int {
	isOther := func(w write) bool { return w[performed] != list[0][performed] || w[value] != list[0][value] }
	if i := slices.IndexFunc(list, isOther); i >= 0 {
		return i
	}
	return len(list)
}

// isAmong returns whether at is the address of any of the writes.
func (b *builder) isAmong(list []write, at int) int {
	is := b.Bin(bv.Eq, list[0][address], at)
	for _, w := range list[1:] {
		is = b.Bin(bv.Or, is, b.Bin(bv.Eq, w[address], at))
	}
	return is
}

// history returns the writes to a memory in previous cycles, in the order in which
// they were performed.
func (b *builder) history(m *memory) []write {
	if m.writes == nil {
		m.writes = b.newHistory(m.Mem)
	}
	return m.writes
}

func (b *builder) newHistory(m net.Mem) []write {
	if b.cycles == 0 {
		return nil
	}
	list := make([]write, b.cycles*len(m.Ports))
	for i, p := range m.Ports {
		for element, s := range b.sources(p, m.Words) {
			for ago, node := range b.past(s) {
				list[(b.cycles-1-ago)*len(m.Ports)+i][element] = node
			}
		}
	}
	return list
}

// past returns the nodes for what a source was, the last cycle first. Ports with
// the same source share them.
func (b *builder) past(s source) []int {
	list, found := b.pasts[s]
	if !found {
		list = b.newPast(s)
		b.pasts[s] = list
	}
	return list
}

func (b *builder) newPast(s source) []int {
	x := b.old.Nodes[s.node]
	// Before the first cycle no write was performed, and so a constant may have
	// been its address or value even then.
	if x.Kind == net.Const && s.element != performed {
		return slices.Repeat([]int{b.current(s, b.Add(x))}, b.cycles)
	}
	b.kept = append(b.kept, s)
	first := s.zero(x.Width)
	var list []int
	for ago := range b.cycles {
		name := "past." + strconv.Itoa(len(b.kept)) + "." + strconv.Itoa(ago+1)
		list = append(list, b.Register(net.Register{Name: name, Width: first.Width(), First: first}))
	}
	return list
}

// zero returns a vector of zeros for a source whose node has that width.
func (s source) zero(width int) bv.Vec {
	switch s.element {
	case performed:
		width = 1
	case address:
		width = placeWidth(s.words)
	}
	v, _ := bv.New(width)
	return v
}

// current returns what a source is, given the node for its node of old.
func (b *builder) current(s source, x int) int {
	switch {
	case s.element == address:
		return b.place(x, s.words)
	case s.element == value:
		return x
	case s.at == maker.None:
		return b.Truth(x)
	}
	return b.Both(b.Truth(x), b.exists(b.nodes[s.at], s.words))
}

// keep makes registers keep what each source is, and pass on what it was.
func (b *builder) keep() {
	for _, s := range b.kept {
		x := b.current(s, b.nodes[s.node])
		for ago := range b.cycles {
			past := b.pasts[s][ago]
			b.receive(past, x)
			x = past
		}
	}
}
