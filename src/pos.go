package src

import (
	"cmp"
	"slices"

	"sluicegate/api"
)

// Pos returns the position of a byte, or of the end of the text.
func (t *Table) Pos(file, offset int) (api.Pos, api.Errno) {
	f := t.file(file)
	if f == nil {
		return api.Pos{}, api.ErrNone
	}
	if offset < 0 || offset > len(f.Text) {
		return api.Pos{}, api.ErrRange
	}
	line, _ := slices.BinarySearch(f.starts, offset+1) // how many lines begin up to there
	return api.Pos{File: file, Line: line, Col: offset - f.starts[line-1] + 1}, api.OK
}

// Offset returns the offset of a position.
func (t *Table) Offset(p api.Pos) (int, api.Errno) {
	f := t.file(p.File)
	if f == nil {
		return 0, api.ErrNone
	}
	if !f.hasLine(p.Line) {
		return 0, api.ErrRange
	}
	start, end := f.bounds(p.Line)
	if p.Col < 1 || p.Col > end-start+1 {
		return 0, api.ErrRange
	}
	return start + p.Col - 1, api.OK
}

// Line returns a line without its line feed.
func (t *Table) Line(file, line int) (string, api.Errno) {
	f := t.file(file)
	if f == nil {
		return "", api.ErrNone
	}
	if !f.hasLine(line) {
		return "", api.ErrRange
	}
	start, end := f.bounds(line)
	return f.Text[start:end], api.OK
}

// Lines returns the number of lines of a file, or 0 if there is no such file.
func (t *Table) Lines(file int) int {
	f := t.file(file)
	if f == nil {
		return 0
	}
	return len(f.starts)
}

// Less reports whether position a is before b.
func Less(a, b api.Pos) bool {
	return cmp.Or(cmp.Compare(a.File, b.File), cmp.Compare(a.Line, b.Line), cmp.Compare(a.Col, b.Col)) < 0
}

func (f *dividedFile) hasLine(line int) bool { return 1 <= line && line <= len(f.starts) }

// bounds returns where a line begins, and where its line feed or the end of the
// text is.
func (f *dividedFile) bounds(line int) (start, end int) {
	if line == len(f.starts) {
		return f.starts[line-1], len(f.Text)
	}
	return f.starts[line-1], f.starts[line] - 1
}
