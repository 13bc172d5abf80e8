package ast

// stmt writes a statement.
func (w *writer) stmt(s Stmt) {
	switch s.Kind {
	case Block:
		w.line("begin")
		w.stmts(s.Body)
		w.line("end")
	case Set:
		join(w, "=", s.Exprs, w.expr)
		w.line(";")
	case Later:
		join(w, "<=", s.Exprs, w.expr)
		w.line(";")
	case If:
		w.branches(s)
	case Case:
		w.words("case")
		w.inParentheses(at(s.Exprs, 0))
		w.line()
		for _, arm := range s.Arms {
			w.arm(arm)
		}
		w.line("endcase")
	case For:
		w.loop(s.Text, s.Exprs)
		w.stmts(s.Body)
	case Assert:
		if s.Text != "" {
			w.words(s.Text, ":")
		}
		w.words("assert")
		w.inParentheses(at(s.Exprs, 0))
		w.line(";")
	default:
		w.line(";")
	}
}

func (w *writer) stmts(list []Stmt) {
	for _, s := range list {
		w.stmt(s)
	}
}

func (w *writer) arm(arm Arm) {
	if len(arm.Exprs) == 0 {
		w.words("default")
	}
	join(w, ",", arm.Exprs, w.expr)
	w.words(":")
	w.stmt(arm.Body)
}

// loop writes the head of a loop.
func (w *writer) loop(name string, exprs []Expr) {
	w.words("for", "(", name, "=")
	w.expr(at(exprs, 0))
	w.words(";")
	w.expr(at(exprs, 1))
	w.words(";", name, "=")
	w.expr(at(exprs, 2))
	w.words(")")
}

// branches writes an If. The first branch is enclosed in begin and end if it
// would take the else for itself.
func (w *writer) branches(s Stmt) {
	w.words("if")
	w.inParentheses(at(s.Exprs, 0))
	first := at(s.Body, 0)
	if hasElse(s) && takesElse(first) {
		first = Stmt{Kind: Block, Body: []Stmt{first}}
	}
	w.stmt(first)
	if hasElse(s) {
		w.words("else")
		w.stmt(s.Body[1])
	}
}

// hasElse reports whether the else of an If is written.
func hasElse(s Stmt) bool { return len(s.Body) > 1 && s.Body[1].Kind != Null }

// takesElse reports whether an else after the text of a statement would belong
// to an If at its end.
func takesElse(s Stmt) bool {
	switch {
	case s.Kind == For:
		return takesElse(at(s.Body, 0))
	case s.Kind != If:
		return false
	}
	return !hasElse(s) || takesElse(s.Body[1])
}
