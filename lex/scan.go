package lex

import "strings"

// signs has every sign after those that begin with it, so that the first one
// found is the longest.
var signs = [...]string{
	"<<<", ">>>",
	"<<", ">>", "<=", ">=", "==", "!=", "&&", "||", "~&", "~|", "~^", "^~",
	"+", "-", "*", "/", "%", "&", "|", "^", "~", "!", "<", ">", "?", ":", "=",
	"(", ")", "[", "]", "{", "}", ";", ",", ".", "#", "@",
}

// measure returns the kind and the length of the token at the beginning of
// text, which is not empty. The length is 0 if no token begins there.
func measure(text string) (kind, length int) {
	isPart := func(c byte) bool { return isLetter(c) || isDigit(c) || c == '_' }
	first := text[0]
	switch {
	case isLetter(first) || first == '_' || first == '$':
		return Name, 1 + ahead(text[1:], isPart)
	case isDigit(first) || first == '\'':
		head := ahead(text, func(c byte) bool { return isDigit(c) || c == '_' })
		if !strings.HasPrefix(text[head:], "'") {
			return Number, head
		}
		return Number, head + 1 + ahead(text[head+1:], isPart)
	}
	return Sign, signAhead(text)
}

// signAhead returns the length of the sign at the beginning of text, or 0 if
// there is none.
func signAhead(text string) int {
	for _, sign := range signs {
		if strings.HasPrefix(text, sign) {
			return len(sign)
		}
	}
	return 0
}

// ahead returns how many bytes at the beginning of text satisfy a condition.
func ahead(text string, holds func(c byte) bool) int {
	for i := range len(text) {
		if !holds(text[i]) {
			return i
		}
	}
	return len(text)
}

func isLetter(c byte) bool { return 'a' <= c && c <= 'z' || 'A' <= c && c <= 'Z' }

func isDigit(c byte) bool { return '0' <= c && c <= '9' }
