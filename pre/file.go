package pre

import (
	"strings"

	"sluicegate/api"
)

// file is a file that is being expanded.
type file struct {
	*expander
	number, depth int
	text          string // with spaces in place of comments
	blocks        []block
	from, to      int // the part of the text that is about to be a piece
}

// fault returns the error, if it is one, at the position of a byte.
func (f *file) fault(offset int, err api.Errno) fault {
	if err == api.OK {
		return fault{}
	}
	return fault{f.pos(offset), err}
}

// pos returns the position of a byte.
func (f *file) pos(offset int) api.Pos {
	p, _ := f.table.Pos(f.number, offset) // offsets in the text are valid
	return p
}

// expand processes the lines of the file.
func (f *file) expand() fault {
	for start := 0; start < len(f.text); {
		end := start + ahead(f.text[start:], func(c byte) bool { return c != '\n' })
		if x := f.line(start, end); x.err != api.OK {
			return x
		}
		start = end + 1
	}
	f.finishPiece()
	if last := len(f.blocks) - 1; last >= 0 {
		return f.fault(f.blocks[last].start, api.ErrEnd)
	}
	return fault{}
}

// line processes the line from start to end, and the line feed after it.
func (f *file) line(start, end int) fault {
	at := start + ahead(f.text[start:end], isBlank)
	kind, rest := directive(f.text[at:end])
	var x fault
	switch {
	case isConditional(kind), kind != noDirective && f.isActive():
		f.finishPiece()
		x = f.obey(kind, strings.Trim(rest, blanks), at)
	case f.isActive():
		x = f.replaceUses(start, end)
	}
	if x.err != api.OK || !f.isActive() {
		return x
	}
	return f.take(end, min(end+1, len(f.text)))
}

// replaceUses adds the text from start to end to the pieces, with macro bodies
// in place of uses.
func (f *file) replaceUses(start, end int) fault {
	for {
		before, name, after, isUse := cutUse(f.text[start:end])
		at := start + len(before)
		if x := f.take(start, at); x.err != api.OK || !isUse {
			return x
		}
		f.finishPiece()
		if x := f.insert(f.expansionOf(use{name, 1}), at); x.err != api.OK {
			return x
		}
		start = end - len(after)
	}
}

// take counts a part of the text, which continues the piece that is about to
// be, or begins one.
func (f *file) take(from, to int) fault {
	f.size += to - from
	if f.size > maxSize {
		return f.fault(from, api.ErrSize)
	}
	if f.from == f.to {
		f.from = from
	}
	f.to = to
	return fault{}
}

// finishPiece makes a piece of the text taken since the last one.
func (f *file) finishPiece() {
	if f.from < f.to {
		f.pieces = append(f.pieces, Piece{Text: f.text[f.from:f.to], Pos: f.pos(f.from)})
	}
	f.from = f.to
}

// insert adds the macro bodies that replace the use at an offset.
func (f *file) insert(x expansion, at int) fault {
	f.size += x.size
	if f.size > maxSize {
		return f.fault(at, api.ErrSize)
	}
	for _, part := range x.parts {
		f.pieces = append(f.pieces, Piece{Text: part, Pos: f.pos(at), Fixed: true})
	}
	return f.fault(at, x.err)
}
