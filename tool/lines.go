package tool

import (
	"strconv"
	"strings"
)

// line returns the line that consists of words.
func line(words ...string) string { return strings.Join(words, " ") }

func number[N ~int](n N) string { return strconv.Itoa(int(n)) }

// queue holds lines in order, at most as many as it was made for.
type queue chan string

// put adds a line of words. Nobody receives meanwhile: a line beyond the capacity would
// wait for ever, and is dropped.
func (lines queue) put(words ...string) {
	select {
	case lines <- line(words...):
	default:
	}
}

// all removes the lines, and returns them.
func (lines queue) all() []string {
	var list []string
	for {
		select {
		case text := <-lines:
			list = append(list, text)
		default:
			return list
		}
	}
}
