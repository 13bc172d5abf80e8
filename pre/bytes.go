package pre

import (
	"strings"

	"sluicegate/api"
)

const blanks = " \t\r"

func isBlank(c byte) bool { return strings.IndexByte(blanks, c) >= 0 }

// ahead returns how many bytes at the beginning of text satisfy a condition.
func ahead(text string, holds func(c byte) bool) int {
	for i := range len(text) {
		if !holds(text[i]) {
			return i
		}
	}
	return len(text)
}

// nameAhead returns the NAME at the beginning of text, or nothing if there is
// none. A part of a longer name is no NAME.
func nameAhead(text string) string {
	isDigit := func(c byte) bool { return '0' <= c && c <= '9' }
	isPart := func(c byte) bool {
		return 'a' <= c && c <= 'z' || 'A' <= c && c <= 'Z' || c == '_' || isDigit(c)
	}
	n := ahead(text, isPart)
	if n == 0 || n > api.MaxName || isDigit(text[0]) {
		return ""
	}
	return text[:n]
}

// isName reports whether text is one NAME.
func isName(text string) bool { return text != "" && nameAhead(text) == text }

// blankComments returns the text with a space in place of each byte of a
// comment, and the offset of a comment that has no end, or -1.
func blankComments(text string) (plain string, open int) {
	spaced := []byte(text)
	for i := 0; i < len(text); {
		n := commentAhead(text[i:])
		if n < 0 {
			return "", i
		}
		for j := i; j < i+n; j++ {
			if spaced[j] != '\n' {
				spaced[j] = ' '
			}
		}
		i += max(n, 1)
	}
	return string(spaced), -1
}

// commentAhead returns the length of the comment at the beginning of text: 0 if
// there is none, and -1 if it has no end.
func commentAhead(text string) int {
	if strings.HasPrefix(text, "//") {
		return ahead(text, func(c byte) bool { return c != '\n' })
	}
	if !strings.HasPrefix(text, "/*") {
		return 0
	}
	const marks = len("/*")
	n := strings.Index(text[marks:], "*/")
	if n < 0 {
		return -1
	}
	return marks + n + marks
}
