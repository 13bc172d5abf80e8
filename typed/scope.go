package typed

import (
	"maps"
	"slices"

	"sluicegate/konst"
)

// Func is a function. In its Value, the Ref n stands for parameter n.
type Func struct {
	Params []Sig
	Width  int
	Signed bool
	Value  Expr
}

// The kinds of names. A name without a meaning has none of them.
const (
	aNumber = iota + 1
	aSignal
	aFunction
)

// Scope is a set of names, each with a meaning. Its map is never changed, so
// that it can be shared by copies of the Scope. Its numbers are also in an Env,
// because each constant expression needs one.
type Scope struct {
	names   map[string]meaning
	numbers konst.Env
}

type meaning struct {
	kind, num int
	sig       Sig
	function  *function
}

// function is a Func, with the number of nodes of its Value, and how often each
// parameter occurs there.
type function struct {
	Func
	nodes int
	uses  []int
}

// Const returns s, where the name is a number.
func (s Scope) Const(name string, n int) Scope {
	next := s.with(name, meaning{kind: aNumber, num: n})
	next.numbers = s.numbers.With(name, n)
	return next
}

// Sig returns s, where the name is the signal x with the number num.
func (s Scope) Sig(name string, num int, x Sig) Scope {
	return s.with(name, meaning{kind: aSignal, num: num, sig: x}).counted()
}

// Func returns s, where the name is a function.
func (s Scope) Func(name string, f Func) Scope {
	f.Params = slices.Clone(f.Params)
	f.Value = clone(f.Value)
	known := &function{Func: f, nodes: Nodes(f.Value), uses: make([]int, len(f.Params))}
	walk(f.Value, func(x Expr) {
		if x.Kind == Ref && x.Sig >= 0 && x.Sig < len(f.Params) {
			known.uses[x.Sig]++
		}
	})
	return s.with(name, meaning{kind: aFunction, function: known}).counted()
}

// Without returns s without all names of a kind.
func (s Scope) Without(kind int) Scope {
	rest := maps.Clone(s.names)
	maps.DeleteFunc(rest, func(_ string, m meaning) bool { return m.kind == kind })
	return Scope{rest, s.numbers}.counted()
}

// Env returns the numbers of s.
func (s Scope) Env() konst.Env { return s.numbers }

// Find returns the kind of a name, and its number or the signal that it is.
func (s Scope) Find(name string) (kind, num int, x Sig) {
	m := s.names[name]
	return m.kind, m.num, m.sig
}

func (s Scope) with(name string, m meaning) Scope {
	names := make(map[string]meaning, len(s.names)+1)
	maps.Copy(names, s.names)
	names[name] = m
	return Scope{names, s.numbers}
}

// counted returns s with the Env of its names. The one that it has already is
// right unless a name in it has lost its number.
func (s Scope) counted() Scope {
	numbers := maps.Clone(s.names)
	maps.DeleteFunc(numbers, func(_ string, m meaning) bool { return m.kind != aNumber })
	if len(numbers) == s.numbers.Len() {
		return s
	}
	s.numbers = konst.Env{}
	for name, m := range numbers {
		s.numbers = s.numbers.With(name, m.num)
	}
	return s
}
