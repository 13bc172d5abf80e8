package pre_test

import (
	"strings"
	"testing"

	"sluicegate/api"
	"sluicegate/pre"
)

const maxSize = 65536

// full returns a text whose pieces lack so many bytes to the limit. It ends with
// a use.
func full(left int) string {
	const uses, size = 60, 1000
	head := "`define K " + strings.Repeat("k", size)
	return head + "\n" + strings.Repeat(".", maxSize-left-uses*size-1) + strings.Repeat("`K", uses)
}

// mustHaveSize fails unless the pieces of the files have so many bytes.
func mustHaveSize(t *testing.T, want int, texts ...string) {
	t.Helper()
	pieces, _, err := pre.Expand(table(t, texts...), "a")
	if got := len(textOf(pieces)); got != want || err != api.OK {
		t.Errorf("P7.1:%s: %d bytes, error %d; want %d", short(texts...), got, err, want)
	}
}

// posOf returns the position of a byte, as show writes it.
func posOf(file int, text string, offset int) string {
	before := text[:offset]
	return showPos(api.Pos{File: file, Line: 1 + strings.Count(before, "\n"), Col: len(before) - strings.LastIndexByte(before, '\n')})
}

func TestP7_1SizeThatFits(t *testing.T) {
	for _, x := range []struct {
		left int
		tail string
	}{
		{0, ""}, {1, "+"}, {1, "\n"}, {3, "+\n+"}, {300, strings.Repeat("+", 300)}, {300, strings.Repeat("\n", 300)},
		{1000, "`K"}, {2002, "`K+`K\n"}, {1003, "`K++\n"}, {2, "\n`define E\n`E`E`E"}, {1, "\n`define E 1"},
		{5, "\n`define E 1\n+`E+"}, {7, "\n`define E 12\n`define F `E`E\n`F"},
		{2, "\n`ifdef X\n+++`X`\n`endif\n"}, {1, "\n`ifdef X\n+++`X`\n`endif"}, {13, "/* comment */"},
	} {
		mustHaveSize(t, maxSize, full(x.left)+x.tail)
		mustHaveSize(t, maxSize-3, full(x.left+3)+x.tail)
	}
}

// overflow is a text of which there is a full part, with an error at an offset in
// its tail.
type overflow struct {
	left   int
	tail   string
	offset int
	want   api.Errno
}

func mustOverflow(t *testing.T, list ...overflow) {
	t.Helper()
	for _, x := range list {
		text := full(x.left) + x.tail
		mustReject(t, x.want, posOf(1, text, len(text)-len(x.tail)+x.offset), text, "")
	}
}

func TestP7_1SizeThatDoesNotFit(t *testing.T) {
	mustOverflow(t, []overflow{
		{0, "+", 0, api.ErrSize}, {0, "\n", 0, api.ErrSize}, {0, "//", 0, api.ErrSize}, {0, " ", 0, api.ErrSize},
		{1, "++", 0, api.ErrSize}, {1, "\n\n", 1, api.ErrSize}, {1, "+\n", 1, api.ErrSize}, {1, "\n+", 1, api.ErrSize},
		{5, "++++++\nz", 0, api.ErrSize}, {5, "+++++\nz", 5, api.ErrSize}, {5, "++++\nz\n", 5, api.ErrSize},
		{5, "+++\nz\n", 5, api.ErrSize}, {5, "++\nz\n\n", 5, api.ErrSize},
		{5, "\nz\n  zzz", 3, api.ErrSize}, {5, "\nz\n  zzz `X", 3, api.ErrSize},
		{999, "`K", 0, api.ErrSize}, {999, "\n  `K", 3, api.ErrSize}, {1000, "`K`K", 2, api.ErrSize},
		{1000, "`K+`K", 2, api.ErrSize}, {1001, "\n`K+`K", 3, api.ErrSize}, {1005, "\n`K+`K", 4, api.ErrSize},
		{1003, "`K++\n\n", 5, api.ErrSize}, {1003, "`K++++\n", 2, api.ErrSize},
		{1, "\n`define A\n", 10, api.ErrSize}, {1, "\n`undef A\n`X", 9, api.ErrSize},
		{2, "\n`define A 1\n`A", 13, api.ErrSize}, {4, "\n`define E 12\n`define F `E\n`F", 27, api.ErrSize},
		{5, "\n`define E 12\n`define F `E\n\n`F`X", 28, api.ErrSize},
		{1, "\n`ifdef A\n+\n`endif\n", 18, api.ErrSize}, {1, "\n`ifdef A\n+\n`else\n`endif", 17, api.ErrSize},
		{1, "\n`include \"b\"\n", 13, api.ErrSize},
	}...)
}

// TestP7_1SizeAndOtherErrors has two errors in a text each.
func TestP7_1SizeAndOtherErrors(t *testing.T) {
	mustOverflow(t, []overflow{
		{0, "`X", 0, api.ErrName}, {0, "`", 0, api.ErrForm}, {0, "+`X", 0, api.ErrSize}, {1, "+`X\n", 1, api.ErrName},
		{1, "++` ", 0, api.ErrSize}, {1, "+` ", 1, api.ErrForm}, {1, "+\n`else", 1, api.ErrSize}, {1, "\n`else", 1, api.ErrForm},
		{2, "+\n`include \"a", 2, api.ErrForm}, {2, "\n`define A `X 1\n`A", 16, api.ErrName},
		{2, "\n`define A 1`X\n`A", 15, api.ErrSize}, {3, "\n`define A 1`X\n`A", 15, api.ErrName},
		{2, "\n`define A 1`\n`A", 14, api.ErrSize}, {3, "\n`define A 1`\n`A", 14, api.ErrForm},
		{2, "\n`define A `X`K\n`A", 16, api.ErrName}, {2, "\n`define A `K`X\n`A", 16, api.ErrSize},
		{3, "\n`define A `K`9\n`define B `A\n`B", 29, api.ErrSize},
		{9, "\n`define A 1`A\n`A", 15, api.ErrSize}, {10, "\n`define A 1`A\n`A", 15, api.ErrDeep},
		{2, "\n`define A `A 1\n`A", 16, api.ErrDeep},
		{1, "\n`ifdef A\n+\n", 1, api.ErrEnd}, {0, "\n/*", 1, api.ErrEnd},
	}...)
}

// TestP7_1SizeOfFiles reaches the limit in an included file, and after it.
func TestP7_1SizeOfFiles(t *testing.T) {
	const times = 32
	includes := strings.Repeat("`include \"b\"\n", times)
	exact := strings.Repeat("x", maxSize/times-2) + "\n"
	mustHaveSize(t, maxSize, includes, exact)
	mustReject(t, api.ErrSize, "1:33:1", includes+"y", exact)
	mustReject(t, api.ErrSize, "1:33:13", "\n"+includes, exact)
	mustReject(t, api.ErrSize, "2:1:1", includes, exact+"x\n")
	mustReject(t, api.ErrSize, "2:1:2047", "\n\n"+includes, exact)
	mustReject(t, api.ErrSize, "2:2:1", "\n\n"+includes, exact[1:]+"x")
	mustReject(t, api.ErrSize, "2:1:1", includes+"`include \"b\"", exact)
}
