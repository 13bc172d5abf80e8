package src_test

import (
	"math"
	"testing"

	"sluicegate/api"
	"sluicegate/src"
)

// table returns a table of files with these texts, named a, b and so on.
func table(t *testing.T, texts ...string) *src.Table {
	t.Helper()
	var files []src.File
	for i, text := range texts {
		files = append(files, src.File{Name: string(rune('a' + i)), Text: text})
	}
	x, err := src.New(files...)
	if x == nil || err != api.OK {
		t.Fatalf("New: %v, error %d", x, err)
	}
	return x
}

// texts are short ones of all kinds.
func texts() []string {
	list := []string{
		"\r\n", "a\r\nb\r\n", "\tx\n\x00\xff\n\xc3", "one\ntwo\n\nfour", "\v\f\u2028\u0085", "ä\nö", "`include \"b\"\n",
	}
	const letters = "ab\n\r"
	for length := range 6 {
		for n := range 1 << (2 * length) {
			text := make([]byte, length)
			for i := range text {
				text[i] = letters[n>>(2*i)&3]
			}
			list = append(list, string(text))
		}
	}
	return list
}

// extremes are numbers that no file, line, column or byte has.
func extremes() []int {
	return []int{math.MinInt, math.MinInt + 1, math.MinInt32, -2, -1, math.MaxInt32, 1 << 32, 1<<32 + 1, math.MaxInt - 1, math.MaxInt}
}
