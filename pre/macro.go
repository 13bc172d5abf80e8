package pre

import (
	"strings"

	"sluicegate/api"
)

// macro is what a defined NAME stands for.
type macro struct {
	body string
}

// use is a use of a NAME, the depth-th of nested uses.
type use struct {
	name  string
	depth int
}

// expansion is what a use is replaced by: the parts of the macro bodies between
// the uses in them, and their size. An error is one that follows the parts.
type expansion struct {
	parts []string
	size  int
	err   api.Errno
}

// isOver reports whether nothing that follows has an effect.
func (x *expansion) isOver() bool { return x.err != api.OK || x.size > maxSize }

// add adds a part of a body.
func (x *expansion) add(part string) {
	if part != "" {
		x.parts = append(x.parts, part)
		x.size += len(part)
	}
}

// addAll adds what a use within the body is replaced by.
func (x *expansion) addAll(inner expansion) {
	x.parts = append(x.parts, inner.parts...)
	x.size += inner.size
	x.err = inner.err
}

// define defines a NAME. The text is the rest of the directive, without blanks
// at its beginning and end.
func (e *expander) define(text string) api.Errno {
	name := nameAhead(text)
	rest := text[len(name):]
	if name == "" || rest != "" && !isBlank(rest[0]) {
		return api.ErrForm
	}
	e.macros[name] = macro{body: strings.Trim(rest, blanks)}
	clear(e.expansions)
	return api.OK
}

// undef removes the definition of a NAME.
func (e *expander) undef(name string) api.Errno {
	if !isName(name) {
		return api.ErrForm
	}
	delete(e.macros, name)
	clear(e.expansions)
	return api.OK
}

// expansionOf returns what a use is replaced by. Expansions are kept until a
// definition changes, because bodies that lead to nothing could otherwise be
// visited once for each of their combinations.
func (e *expander) expansionOf(u use) expansion {
	m, isDefined := e.macros[u.name]
	switch {
	case u.name == "":
		return expansion{err: api.ErrForm}
	case !isDefined:
		return expansion{err: api.ErrName}
	case u.depth > maxUses:
		return expansion{err: api.ErrDeep}
	}
	x, isKnown := e.expansions[u]
	if !isKnown {
		x = e.expandBody(m.body, u.depth)
		e.expansions[u] = x
	}
	return x
}

// expandBody returns what is left of a macro body when the uses in it are
// replaced.
func (e *expander) expandBody(body string, depth int) expansion {
	var x expansion
	before, name, after, isUse := cutUse(body)
	x.add(before)
	for isUse && !x.isOver() {
		x.addAll(e.expansionOf(use{name, depth + 1}))
		before, name, after, isUse = cutUse(after)
		if !x.isOver() {
			x.add(before)
		}
	}
	return x
}

// cutUse divides a text at its first backquote, if there is one. The name is
// empty if no NAME follows it.
func cutUse(text string) (before, name, after string, isUse bool) {
	before, after, isUse = strings.Cut(text, "`")
	name = nameAhead(after)
	return before, name, after[len(name):], isUse
}
