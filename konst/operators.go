package konst

// unaryOf returns the operation of an operator of one operand, or nil if
// constant expressions do not have it.
func unaryOf(sign string) func(n int) int {
	switch sign {
	case "-":
		return func(n int) int { return -n }
	case "~":
		return func(n int) int { return -1 - n }
	case "!":
		return func(n int) int { return truth(n == 0) }
	}
	return nil
}

// binaryOf returns the operation of an operator of two operands, for those that
// permits accepts, or nil if there is no such operator that evaluates both.
func binaryOf(sign string) func(a, b int) int {
	switch sign {
	case "+":
		return func(a, b int) int { return a + b }
	case "-":
		return func(a, b int) int { return a - b }
	case "*":
		return func(a, b int) int { return a * b }
	case "/":
		return func(a, b int) int { return a / b }
	case "%":
		return func(a, b int) int { return a % b }
	case "&":
		return func(a, b int) int { return a & b }
	case "|":
		return func(a, b int) int { return a | b }
	case "^":
		return func(a, b int) int { return a ^ b }
	case "~^":
		return func(a, b int) int { return ^(a ^ b) }
	case "<<", "<<<":
		return func(a, b int) int { return a << b }
	case ">>", ">>>":
		return func(a, b int) int { return a >> b }
	}
	return comparisonOf(sign)
}

func comparisonOf(sign string) func(a, b int) int {
	switch sign {
	case "<":
		return func(a, b int) int { return truth(a < b) }
	case "<=":
		return func(a, b int) int { return truth(a <= b) }
	case ">":
		return func(a, b int) int { return truth(a > b) }
	case ">=":
		return func(a, b int) int { return truth(a >= b) }
	case "==":
		return func(a, b int) int { return truth(a == b) }
	case "!=":
		return func(a, b int) int { return truth(a != b) }
	}
	return nil
}

// permits reports whether b is a divisor, or the number of places of a shift,
// with which an operator has a result.
func permits(sign string, b int) bool {
	switch sign {
	case "/", "%":
		return b != 0
	case "<<", "<<<", ">>", ">>>":
		return b >= 0 && b <= mostShift
	}
	return true
}

func truth(is bool) int {
	if is {
		return 1
	}
	return 0
}
