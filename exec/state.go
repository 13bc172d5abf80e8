package exec

import (
	"maps"

	"sluicegate/api"
	"sluicegate/bv"
	"sluicegate/flat"
)

// State holds the values of the signals of a design.
type State struct{ cells []cell }

// cell holds the bits of a signal or, if it has a count, the words of a memory.
// Only words that are not 0 are kept, so that a memory of any size has room, and
// equal memories have equal words.
type cell struct {
	width, count int
	bits         bv.Vec
	words        map[int]bv.Vec
}

// New returns the state of a design in which all bits are 0.
func New(d flat.Design) *State {
	s := &State{}
	for _, x := range d.Sigs {
		c := cell{width: x.Width, count: x.Words}
		if c.isMemory() {
			c.words = map[int]bv.Vec{}
		} else {
			c.bits = c.zero()
		}
		s.cells = append(s.cells, c)
	}
	return s
}

// Sig returns the bits of a signal, or the zero Vec if there is no such signal.
func (s *State) Sig(n int) bv.Vec { return s.cell(n).bits }

// Word returns a word of a memory, or the zero Vec if there is no such memory.
func (s *State) Word(n, at int) bv.Vec {
	c := s.cell(n)
	if !c.isMemory() {
		return bv.Vec{}
	}
	if v, found := c.words[at]; found {
		return v
	}
	return c.zero()
}

// SetSig sets a signal.
func (s *State) SetSig(n int, v bv.Vec) api.Errno {
	if !s.has(n) || s.cells[n].isMemory() {
		return api.ErrRange
	}
	if v.Width() != s.cells[n].width {
		return api.ErrWidth
	}
	s.cells[n].bits = v
	return api.OK
}

// SetWord sets a word of a memory.
func (s *State) SetWord(n, at int, v bv.Vec) api.Errno {
	c := s.cell(n)
	if at < 0 || at >= c.count {
		return api.ErrRange
	}
	if v.Width() != c.width {
		return api.ErrWidth
	}
	if v == c.zero() {
		delete(c.words, at)
	} else {
		c.words[at] = v
	}
	return api.OK
}

// Clone returns a copy.
func (s *State) Clone() *State {
	if s == nil {
		return nil
	}
	o := &State{}
	for _, c := range s.cells {
		c.words = maps.Clone(c.words)
		o.cells = append(o.cells, c)
	}
	return o
}

// Same reports whether all signals and words of two states are equal.
func (s *State) Same(o *State) bool {
	if s == nil || o == nil || len(s.cells) != len(o.cells) {
		return s == o
	}
	for i, c := range s.cells {
		if !c.isSame(o.cells[i]) {
			return false
		}
	}
	return true
}

func (s *State) has(n int) bool { return s != nil && n >= 0 && n < len(s.cells) }

// cell returns that of a signal, or an empty one if there is no such signal.
func (s *State) cell(n int) cell {
	if !s.has(n) {
		return cell{}
	}
	return s.cells[n]
}

func (c cell) isMemory() bool { return c.count != 0 }

func (c cell) isSame(o cell) bool {
	return c.width == o.width && c.count == o.count && c.bits == o.bits && maps.Equal(c.words, o.words)
}

// zero returns a vector of zeros, or the zero Vec if there is none of that width.
func (c cell) zero() bv.Vec {
	v, _ := bv.New(c.width)
	return v
}
