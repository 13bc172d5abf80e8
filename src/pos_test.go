package src_test

import (
	"slices"
	"strings"
	"testing"

	"sluicegate/api"
	"sluicegate/src"
)

// expectedPos counts the line feeds before a byte.
func expectedPos(file int, text string, offset int) api.Pos {
	before := text[:offset]
	return api.Pos{File: file, Line: 1 + strings.Count(before, "\n"), Col: len(before) - strings.LastIndexByte(before, '\n')}
}

// mustInvert fails unless Pos returns what is expected for each byte and the
// end, and Offset leads back.
func mustInvert(t *testing.T, x *src.Table, file int, text string) {
	t.Helper()
	for offset := range len(text) + 1 {
		want := expectedPos(file, text, offset)
		p, err := x.Pos(file, offset)
		if p != want || err != api.OK {
			t.Fatalf("P6.2: %q: Pos(%d, %d) = %v, error %d; want %v", text, file, offset, p, err, want)
		}
		if back, err := x.Offset(p); back != offset || err != api.OK {
			t.Fatalf("P6.2: %q: Offset(%v) = %d, error %d; want %d", text, p, back, err, offset)
		}
	}
	for _, offset := range append(extremes(), len(text)+1) {
		if p, err := x.Pos(file, offset); p != (api.Pos{}) || err != api.ErrRange {
			t.Errorf("P6.2: %q: Pos(%d, %d) = %v, error %d", text, file, offset, p, err)
		}
	}
}

// mustHaveNoOthers fails unless Offset accepts exactly the positions that Pos
// returns.
func mustHaveNoOthers(t *testing.T, x *src.Table, file int, text string) {
	t.Helper()
	offsets := map[api.Pos]int{}
	for offset := range len(text) + 1 {
		offsets[expectedPos(file, text, offset)] = offset
	}
	places := extremes()
	for n := -1; n <= len(text)+3; n++ {
		places = append(places, n)
	}
	for _, line := range places {
		for _, col := range places {
			p := api.Pos{File: file, Line: line, Col: col}
			want, exists := offsets[p]
			got, err := x.Offset(p)
			if exists && (got != want || err != api.OK) || !exists && (got != 0 || err != api.ErrRange) {
				t.Errorf("P6.2: %q: Offset(%v) = %d, error %d", text, p, got, err)
			}
		}
	}
}

func TestP6_2PosAndOffset(t *testing.T) {
	for _, text := range texts() {
		x := table(t, text)
		mustInvert(t, x, 1, text)
		mustHaveNoOthers(t, x, 1, text)
	}
}

func TestP6_2Table(t *testing.T) {
	for _, v := range []struct {
		text              string
		offset, line, col int
	}{
		{"", 0, 1, 1},
		{"a", 0, 1, 1}, {"a", 1, 1, 2},
		{"\n", 0, 1, 1}, {"\n", 1, 2, 1},
		{"\n\n", 1, 2, 1}, {"\n\n", 2, 3, 1},
		{"a\nbc", 1, 1, 2}, {"a\nbc", 2, 2, 1}, {"a\nbc", 3, 2, 2}, {"a\nbc", 4, 2, 3},
		{"a\nbc\n", 4, 2, 3}, {"a\nbc\n", 5, 3, 1},
		{"a\r\nb", 1, 1, 2}, {"a\r\nb", 2, 1, 3}, {"a\r\nb", 3, 2, 1},
		{"é\n", 2, 1, 3}, {"é\n", 3, 2, 1},
		{"\tb", 1, 1, 2},
	} {
		x := table(t, "first\nfile\n", v.text)
		want := api.Pos{File: 2, Line: v.line, Col: v.col}
		if p, err := x.Pos(2, v.offset); p != want || err != api.OK {
			t.Errorf("P6.2: %q: Pos(2, %d) = %v, error %d", v.text, v.offset, p, err)
		}
		if offset, err := x.Offset(want); offset != v.offset || err != api.OK {
			t.Errorf("P6.2: %q: Offset(%v) = %d, error %d", v.text, want, offset, err)
		}
	}
}

func TestP6_2Files(t *testing.T) {
	list := []string{"", "one line", "two\nlines", "\n", strings.Repeat("\n", 300), strings.Repeat("x", 300), "end\n"}
	x := table(t, list...)
	for i, text := range list {
		mustInvert(t, x, i+1, text)
	}
	for _, file := range append(extremes(), 0, len(list)+1) {
		for _, n := range append(extremes(), 0, 1) {
			if p, err := x.Pos(file, n); p != (api.Pos{}) || err != api.ErrNone {
				t.Errorf("P6.2: Pos(%d, %d) = %v, error %d", file, n, p, err)
			}
			for _, m := range []int{-1, 0, 1} {
				if offset, err := x.Offset(api.Pos{File: file, Line: n, Col: m}); offset != 0 || err != api.ErrNone {
					t.Errorf("P6.2: Offset in file %d: %d, error %d", file, offset, err)
				}
			}
		}
	}
}

func TestP6_2LargeFiles(t *testing.T) {
	for _, text := range []string{
		strings.Repeat("x", api.MaxSource), strings.Repeat("\n", api.MaxSource), strings.Repeat("line\n..", api.MaxSource/7),
	} {
		x := table(t, text)
		for offset := 0; offset <= len(text); offset++ {
			p, err := x.Pos(1, offset)
			if back, other := x.Offset(p); err != api.OK || other != api.OK || back != offset {
				t.Fatalf("P6.2: Pos(1, %d) = %v, error %d; Offset: %d, error %d", offset, p, err, back, other)
			}
			if offset%997 == 0 && p != expectedPos(1, text, offset) {
				t.Errorf("P6.2: Pos(1, %d) = %v", offset, p)
			}
		}
	}
}

// mustDivide fails unless the lines of a file are those of its text.
func mustDivide(t *testing.T, x *src.Table, file int, text string) {
	t.Helper()
	lines := strings.Split(text, "\n")
	if n := x.Lines(file); n != len(lines) {
		t.Errorf("P6.3: %q: Lines(%d) = %d, want %d", text, file, n, len(lines))
	}
	for i, want := range lines {
		if got, err := x.Line(file, i+1); got != want || err != api.OK {
			t.Errorf("P6.3: %q: Line(%d, %d) = %q, error %d; want %q", text, file, i+1, got, err, want)
		}
	}
	for _, line := range append(extremes(), 0, len(lines)+1) {
		if got, err := x.Line(file, line); got != "" || err != api.ErrRange {
			t.Errorf("P6.3: %q: Line(%d, %d) = %q, error %d", text, file, line, got, err)
		}
	}
}

func TestP6_3Lines(t *testing.T) {
	for _, text := range texts() {
		mustDivide(t, table(t, text), 1, text)
	}
	list := []string{"a\nb", "", "\n", strings.Repeat("\n", 1000), strings.Repeat("x", 1000) + "\n" + strings.Repeat("y", 1000), "last\n"}
	x := table(t, list...)
	for i, text := range list {
		mustDivide(t, x, i+1, text)
	}
	for _, file := range append(extremes(), 0, len(list)+1) {
		if n := x.Lines(file); n != 0 {
			t.Errorf("P6.3: Lines(%d) = %d", file, n)
		}
		for _, line := range append(extremes(), 0, 1) {
			if got, err := x.Line(file, line); got != "" || err != api.ErrNone {
				t.Errorf("P6.3: Line(%d, %d) = %q, error %d", file, line, got, err)
			}
		}
	}
	mustDivide(t, table(t, strings.Repeat("\n", api.MaxSource)), 1, strings.Repeat("\n", api.MaxSource))
}

// TestP6_3Less has positions in their order, also such as no file has.
func TestP6_3Less(t *testing.T) {
	numbers := append(extremes(), 0, 1, 2, 3)
	slices.Sort(numbers)
	var list []api.Pos
	for _, file := range numbers {
		for _, line := range numbers {
			for _, col := range numbers {
				list = append(list, api.Pos{File: file, Line: line, Col: col})
			}
		}
	}
	for i, a := range list {
		for j, b := range list {
			if j%7 != i%7 && j != i && j != i+1 {
				continue
			}
			if src.Less(a, b) != (i < j) {
				t.Fatalf("P6.3: Less(%v, %v) = %v", a, b, i >= j)
			}
		}
	}
}

// TestP6_3LessAsInTheText compares the positions of one file.
func TestP6_3LessAsInTheText(t *testing.T) {
	const text = "a\n\nbc\nd"
	x := table(t, text, text)
	for i := range 2 * (len(text) + 1) {
		for j := range 2 * (len(text) + 1) {
			a, _ := x.Pos(1+i/(len(text)+1), i%(len(text)+1))
			b, _ := x.Pos(1+j/(len(text)+1), j%(len(text)+1))
			if src.Less(a, b) != (i < j) {
				t.Errorf("P6.3: Less(%v, %v) = %v", a, b, i >= j)
			}
		}
	}
}
