package net

import (
	"strconv"

	"sluicegate/bv"
)

// table numbers things that can be compared. Its map is shared by copies of it.
type table[T comparable] struct {
	numbers map[T]int
	doubles int // things in the list that were equal to others before them
}

// tableOf returns a table that numbers the elements of a list. The first one of
// equal elements counts.
func tableOf[T comparable](list []T) table[T] {
	t := table[T]{numbers: make(map[T]int, len(list))}
	for _, x := range list {
		if _, found := t.find(x); found {
			t.doubles++
		} else {
			t.put(x)
		}
	}
	return t
}

// count returns how many things there are, including equal ones.
func (t table[T]) count() int { return len(t.numbers) + t.doubles }

func (t table[T]) find(x T) (int, bool) {
	i, found := t.numbers[x]
	return i, found
}

// put gives the next number to something that is not in the table.
func (t table[T]) put(x T) { t.numbers[x] = t.count() }

// key is a node as a struct that can be compared: its Args are a text.
type key struct {
	fields
	args string
}

// fields are those of a node, without its Args.
type fields struct {
	kind, op, width, num, lo int
	signed                   bool
	val                      bv.Vec
}

func fieldsOf(x Node) fields {
	return fields{x.Kind, x.Op, x.Width, x.Num, x.Lo, x.Signed, x.Val}
}

func keyOf(x Node) key {
	var text []byte
	for _, arg := range x.Args {
		text = strconv.AppendInt(text, int64(arg), 10)
		text = append(text, ' ')
	}
	return key{fieldsOf(x), string(text)}
}
