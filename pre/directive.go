package pre

import (
	"strings"

	"sluicegate/api"
)

// The kinds of directives; those from ifdefWord on are conditional.
const (
	noDirective = iota
	defineWord
	undefWord
	includeWord
	ifdefWord
	ifndefWord
	elseWord
	endifWord
)

func isConditional(kind int) bool { return kind >= ifdefWord }

// directive returns the kind of the directive at the beginning of text, and
// what follows its word.
func directive(text string) (kind int, rest string) {
	text, isTicked := strings.CutPrefix(text, "`")
	if !isTicked {
		return noDirective, ""
	}
	word := nameAhead(text)
	return kindOf(word), text[len(word):]
}

// kindOf returns the kind of the directive with that word.
func kindOf(word string) int {
	switch word {
	case "define":
		return defineWord
	case "undef":
		return undefWord
	case "include":
		return includeWord
	case "ifdef":
		return ifdefWord
	case "ifndef":
		return ifndefWord
	case "else":
		return elseWord
	case "endif":
		return endifWord
	}
	return noDirective
}

// obey does what the directive at an offset says. The text is its rest, without
// blanks at its beginning and end.
func (f *file) obey(kind int, text string, at int) fault {
	var err api.Errno
	switch kind {
	case defineWord:
		err = f.define(text)
	case undefWord:
		err = f.undef(text)
	case includeWord:
		return f.includeQuoted(text, at)
	case ifdefWord, ifndefWord:
		err = f.openBlock(text, kind == ifdefWord, at)
	case elseWord:
		err = f.turnBlock(text)
	case endifWord:
		err = f.closeBlock(text)
	}
	return f.fault(at, err)
}

// includeQuoted inserts the pieces of the file whose name is the text in double
// quotes.
func (f *file) includeQuoted(text string, at int) fault {
	text, isOpen := strings.CutPrefix(text, `"`)
	name, isClosed := strings.CutSuffix(text, `"`)
	if !isOpen || !isClosed || strings.Contains(name, `"`) {
		return f.fault(at, api.ErrForm)
	}
	return f.include(name, f.depth+1, f.pos(at))
}

// block is the lines from an ifdef or ifndef to its endif.
type block struct {
	start             int  // the offset of its backquote
	isOutside, active bool // whether the lines around it are active, and those now
	hasElse           bool
}

// isActive reports whether the lines after those processed so far are active.
func (f *file) isActive() bool {
	last := len(f.blocks) - 1
	return last < 0 || f.blocks[last].active
}

// openBlock begins a block whose first lines are active if the NAME is defined,
// or is not, as wanted.
func (f *file) openBlock(name string, wanted bool, at int) api.Errno {
	if !isName(name) {
		return api.ErrForm
	}
	_, isDefined := f.macros[name]
	outside := f.isActive()
	f.blocks = append(f.blocks, block{start: at, isOutside: outside, active: outside && isDefined == wanted})
	return api.OK
}

// turnBlock proceeds to the lines from else to endif.
func (f *file) turnBlock(rest string) api.Errno {
	last := len(f.blocks) - 1
	if rest != "" || last < 0 || f.blocks[last].hasElse {
		return api.ErrForm
	}
	b := &f.blocks[last]
	b.hasElse = true
	b.active = b.isOutside && !b.active
	return api.OK
}

// closeBlock ends a block.
func (f *file) closeBlock(rest string) api.Errno {
	last := len(f.blocks) - 1
	if rest != "" || last < 0 {
		return api.ErrForm
	}
	f.blocks = f.blocks[:last]
	return api.OK
}
