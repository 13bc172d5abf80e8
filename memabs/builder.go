package memabs

import (
	"math/bits"
	"slices"

	"sluicegate/api"
	"sluicegate/bv"
	"sluicegate/maker"
	"sluicegate/net"
)

// builder makes the netlist without memories that is equivalent to old for a
// number of cycles.
type builder struct {
	maker.Maker
	old      *net.Net
	cycles   int
	nodes    []int            // the node for each node of old
	mems     []memory         // for each memory of old
	hasBegun int              // whether there was a step; None until it is needed
	pasts    map[source][]int // the nodes for what a source was, the last cycle first
	kept     []source         // those for which there are registers
}

// newBuilder returns a builder without nodes, in which the registers of old are
// the first ones.
func newBuilder(old *net.Net, cycles int) *builder {
	b := &builder{old: old, cycles: cycles, hasBegun: maker.None, pasts: map[source][]int{}}
	b.Net = &net.Net{Inputs: slices.Clone(old.Inputs), Regs: slices.Clone(old.Regs)}
	b.nodes = slices.Repeat([]int{maker.None}, len(old.Nodes))
	return b
}

// regs returns the numbers of the registers of old.
func (b *builder) regs() []int {
	var list []int
	for i := range len(b.old.Regs) {
		list = append(list, i)
	}
	return list
}

// addWords adds a register that never changes for each initial word, and returns
// their numbers.
func (b *builder) addWords() [][]int {
	var first [][]int
	reads := b.reads()
	for i, m := range b.old.Mems {
		var regs, nodes []int
		for at := range m.Words {
			if b.Err != api.OK {
				return nil
			}
			regs = append(regs, len(b.Net.Regs))
			node := b.Register(net.Register{Name: wordName(m, at), Width: m.Width})
			b.receive(node, node)
			nodes = append(nodes, node)
		}
		first, b.mems = append(first, regs), append(b.mems, newMemory(m, nodes, reads[i]))
	}
	return first
}

// receive makes a node the next value of the register that another node is.
func (b *builder) receive(reg, next int) {
	if b.Err == api.OK {
		b.Net.Regs[b.Net.Nodes[reg].Num].Next = next
	}
}

// addNodes adds a node for each node of old.
func (b *builder) addNodes() {
	for i, x := range b.old.Nodes {
		if b.Err != api.OK {
			return
		}
		args := make([]int, len(x.Args))
		for j, arg := range x.Args {
			args[j] = b.nodes[arg]
		}
		if x.Kind == net.Word {
			b.nodes[i] = b.read(x.Num, args[0])
			continue
		}
		x.Args = args
		b.nodes[i] = b.Add(x)
	}
}

// connect makes everything that is no node refer to nodes.
func (b *builder) connect() {
	b.keep()
	for i := range b.mems {
		b.keepWords(&b.mems[i])
	}
	for i, x := range b.old.Regs {
		b.Net.Regs[i].Next = b.nodes[x.Next]
	}
	for _, x := range b.old.Outs {
		b.Net.Outs = append(b.Net.Outs, net.Out{Name: x.Name, Node: b.nodes[x.Node]})
	}
	for _, x := range b.old.Asserts {
		b.Net.Asserts = append(b.Net.Asserts, net.Assert{Name: x.Name, On: b.nodes[x.On], Is: b.nodes[x.Is]})
	}
}

// read returns the word of a memory with the number at, or 0 if there is none.
func (b *builder) read(mem, at int) int {
	m := &b.mems[mem]
	if m.Words < 1 {
		return b.Number(m.Width, 0)
	}
	word := b.existing(m, at)
	if isCertain(b.Net.Nodes[at], m.Words) {
		return word
	}
	return b.Choose(b.exists(at, m.Words), word, b.Number(m.Width, 0))
}

// existing returns the word of a memory with the number at, if there is one: what
// its register has or, if it has a history, what the last write to the word left
// there, or else its initial value.
func (b *builder) existing(m *memory, at int) int {
	if m.isSmall {
		return b.among(b.words(m), at)
	}
	word := b.among(m.first, at)
	for list := b.history(m); len(list) > 0; {
		count := alike(list)
		isSame := b.isAmong(list[:count], b.place(at, m.Words))
		word = b.Choose(b.Both(list[0][performed], isSame), list[0][value], word)
		list = list[count:]
	}
	return word
}

// among returns the one of the nodes of words with the number at, or any of them if
// there is none. If at has few bits, it cannot be the number of all words.
func (b *builder) among(words []int, at int) int {
	x := b.Net.Nodes[at]
	if x.Kind == net.Const {
		return words[x.Val.Num(len(words)-1)]
	}
	if x.Width < bits.Len(uint(len(words)-1)) {
		words = words[:1<<x.Width]
	}
	return b.halve(words, at)
}

// halve returns the one of words with the number at, the highest bit of which says
// in which half it is.
func (b *builder) halve(words []int, at int) int {
	if len(words) == 1 {
		return words[0]
	}
	bit := bits.Len(uint(len(words)-1)) - 1
	low, high := words[:1<<bit], words[1<<bit:]
	return b.Choose(b.Part(at, bit, 1), b.halve(high, at), b.halve(low, at))
}

// isCertain reports whether each value of a node is the number of one of so many
// words.
func isCertain(x net.Node, words int) bool {
	if x.Kind == net.Const {
		return x.Val.Num(words) < words
	}
	return x.Width < bits.Len(uint(words))
}

// exists returns whether at is the number of one of so many words, which is not
// certain.
func (b *builder) exists(at, words int) int {
	return b.Bin(bv.Ult, at, b.Number(b.Width(at), uint64(words)))
}

// place returns at with as many bits as the numbers of so many words need.
func (b *builder) place(at, words int) int {
	width := placeWidth(words)
	if b.Width(at) < width {
		return b.Wide(at, width)
	}
	return b.Part(at, 0, width)
}

// placeWidth returns how many bits the numbers of so many words need.
func placeWidth(words int) int { return max(1, bits.Len(uint(words-1))) }
