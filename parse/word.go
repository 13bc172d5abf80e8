package parse

import (
	"slices"
	"strings"

	"sluicegate/lex"
)

// isOne reports whether a token is one of the words, which are names or signs.
func isOne(t lex.Token, words ...string) bool {
	return slices.ContainsFunc(words, func(word string) bool { return t.Text == word && t.Kind == kindOf(word) })
}

// kindOf returns the kind of the token that a word of the grammar is.
func kindOf(word string) int {
	if 'a' <= word[0] && word[0] <= 'z' {
		return lex.Name
	}
	return lex.Sign
}

// isName reports whether a token is a NAME.
func isName(t lex.Token) bool {
	return t.Kind == lex.Name && !isReserved(t.Text) && !strings.HasPrefix(t.Text, "$")
}

// isReserved reports whether a name is a word of the grammar.
func isReserved(name string) bool {
	switch name {
	case "module", "endmodule", "parameter", "input", "output", "signed", "reg",
		"wire", "integer", "localparam", "genvar", "assign", "always", "posedge",
		"function", "endfunction", "generate", "endgenerate",
		"begin", "end", "if", "else", "case", "default", "endcase", "for", "assert":
		return true
	}
	return false
}

// isCast reports whether a token is the name of a function that changes the sign
// of its argument.
func isCast(t lex.Token) bool {
	return t.Kind == lex.Name && (t.Text == "$signed" || t.Text == "$unsigned")
}
