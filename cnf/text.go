package cnf

import (
	"strconv"
	"strings"

	"sluicegate/api"
)

// maxDigits is how many digits a number may have in a text.
const maxDigits = 9

// Text returns the formula in the DIMACS format.
func (c *Cnf) Text() string {
	var text strings.Builder
	text.WriteString("p cnf " + strconv.Itoa(c.Vars()) + " " + strconv.Itoa(c.Len()) + "\n")
	for i := range c.Len() {
		for _, lit := range c.stored(i) {
			text.WriteString(strconv.Itoa(lit) + " ")
		}
		text.WriteString("0\n")
	}
	return text.String()
}

// Parse returns the formula that Text wrote, or the number of the first invalid
// line and its error.
func Parse(s string) (*Cnf, int, api.Errno) {
	line, rest, ended := strings.Cut(s, "\n")
	vars, clauses, err := parseSizes(line)
	if err == api.OK && !ended {
		err = api.ErrEnd
	}
	if err != api.OK {
		return nil, 1, err
	}
	c := New(vars)
	for number := 2; rest != "" || c.Len() < clauses; number++ {
		// A missing line is empty, and so has not the form of a clause.
		line, rest, ended = strings.Cut(rest, "\n")
		lits, err := parseClause(line, vars)
		if c.Len() == clauses {
			err = api.ErrForm
		}
		if err == api.OK && !ended {
			err = api.ErrEnd
		}
		if err == api.OK {
			err = c.Add(lits...)
		}
		if err != api.OK {
			return nil, number, err
		}
	}
	return c, 0, api.OK
}

// parseSizes returns the numbers of variables and clauses of the first line.
func parseSizes(line string) (vars, clauses int, err api.Errno) {
	sizes, isHead := strings.CutPrefix(line, "p cnf ")
	first, second, isPair := strings.Cut(sizes, " ")
	vars, isFirst := parseNumber(first)
	clauses, isSecond := parseNumber(second)
	if !isHead || !isPair || !isFirst || !isSecond {
		return 0, 0, api.ErrForm
	}
	if vars > api.MaxVars || clauses > api.MaxClauses {
		return 0, 0, api.ErrRange
	}
	return vars, clauses, api.OK
}

// parseClause returns the literals of a line, which must be in the order in
// which Add stores them.
func parseClause(line string, vars int) ([]int, api.Errno) {
	// Of a longer line, the last word is all the rest, which is not 0.
	words := strings.SplitN(line, " ", maxLits+1)
	last := len(words) - 1
	if words[last] != "0" {
		return nil, api.ErrForm
	}
	lits := make([]int, last)
	greatest := 0
	for i, word := range words[:last] {
		lit, isLit := parseLiteral(word)
		if !isLit || variable(lit) <= greatest {
			return nil, api.ErrForm
		}
		lits[i], greatest = lit, variable(lit)
	}
	if greatest > vars {
		return nil, api.ErrRange
	}
	return lits, api.OK
}

// parseLiteral returns the literal that a word stands for.
func parseLiteral(word string) (int, bool) {
	digits, isNegative := strings.CutPrefix(word, "-")
	n, isNumber := parseNumber(digits)
	if isNegative {
		n = -n
	}
	return n, isNumber && n != 0
}

// parseNumber returns the number that a word of digits stands for.
func parseNumber(word string) (int, bool) {
	noDigit := func(r rune) bool { return r < '0' || r > '9' }
	if word == "" || len(word) > maxDigits || strings.ContainsFunc(word, noDigit) {
		return 0, false
	}
	if word[0] == '0' && word != "0" {
		return 0, false
	}
	n, _ := strconv.Atoi(word) // maxDigits digits are a number
	return n, true
}
