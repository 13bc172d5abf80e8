package ast

import "strings"

// Text returns the source text of the modules.
func Text(list ...Module) string {
	w := &writer{}
	for _, m := range list {
		w.module(m)
	}
	return w.text.String()
}

// writer writes words, separated by one space, in lines.
type writer struct {
	text     strings.Builder
	isInLine bool // the last line has a word
}

// words writes words that do not end a line.
func (w *writer) words(list ...string) {
	for _, word := range list {
		if w.isInLine {
			w.text.WriteByte(' ')
		}
		w.text.WriteString(word)
		w.isInLine = true
	}
}

// line writes words that end a line.
func (w *writer) line(list ...string) {
	w.words(list...)
	w.text.WriteByte('\n')
	w.isInLine = false
}

// join writes the elements of a list, with a word between each two of them.
func join[T any](w *writer, word string, list []T, write func(element T)) {
	for i, element := range list {
		if i > 0 {
			w.words(word)
		}
		write(element)
	}
}

// at returns an element of a list, or a zero value if there is none. Trees need
// not be valid.
func at[T any](list []T, index int) T {
	if index < len(list) {
		return list[index]
	}
	var none T
	return none
}

// from returns the elements of a list from one on.
func from[T any](list []T, index int) []T { return list[min(index, len(list)):] }

func (w *writer) module(m Module) {
	w.words("module", m.Name)
	if len(m.Params) > 0 {
		w.words("#", "(")
		join(w, ",", m.Params, w.param)
		w.words(")")
	}
	w.words("(")
	join(w, ",", m.Ports, w.net)
	w.line(")", ";")
	w.items(m.Items)
	w.line("endmodule")
}
