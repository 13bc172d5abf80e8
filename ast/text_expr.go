package ast

// expr writes an expression without parentheses around it.
func (w *writer) expr(e Expr) {
	switch e.Kind {
	case Un:
		w.words(e.Text)
		w.operand(at(e.Args, 0))
	case Bin:
		join(w, e.Text, e.Args, w.operand)
	case Cond:
		w.operand(at(e.Args, 0))
		w.words("?")
		join(w, ":", from(e.Args, 1), w.operand)
	case Cat:
		w.braces(e.Args)
	case Rep:
		w.words("{")
		w.expr(at(e.Args, 0))
		w.braces(from(e.Args, 1))
		w.words("}")
	case Index, Range:
		w.words(e.Text)
		w.brackets(e.Args)
	case Call:
		w.words(e.Text, "(")
		join(w, ",", e.Args, w.expr)
		w.words(")")
	default:
		w.words(e.Text)
	}
}

// operand writes an operand of an operator.
func (w *writer) operand(e Expr) {
	switch e.Kind {
	case Un, Bin, Cond:
		w.inParentheses(e)
	default:
		w.expr(e)
	}
}

func (w *writer) inParentheses(e Expr) {
	w.words("(")
	w.expr(e)
	w.words(")")
}

func (w *writer) braces(list []Expr) {
	w.words("{")
	join(w, ",", list, w.expr)
	w.words("}")
}

// brackets writes an index, or two bounds.
func (w *writer) brackets(list []Expr) {
	w.words("[")
	join(w, ":", list, w.expr)
	w.words("]")
}
