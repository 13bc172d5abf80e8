package flat

import (
	"strconv"
	"strings"

	"sluicegate/bv"
	"sluicegate/typed"
)

// Text returns lines that describe all of a design except positions. Every
// field is written, and every list has its length or an end, so that no two
// designs have the same text.
func Text(d Design) string {
	w := &writer{}
	for _, x := range d.Sigs {
		w.line("signal", strconv.Quote(x.Name), number(x.Width), truth(x.Signed), number(x.Words))
	}
	for _, sig := range d.Inputs {
		w.line("input", number(sig))
	}
	for _, sig := range d.Outputs {
		w.line("output", number(sig))
	}
	for _, name := range d.Asserts {
		w.line("assertion", strconv.Quote(name))
	}
	for _, x := range d.Starts {
		w.line("start", number(x.Sig), vector(x.Val))
	}
	for _, p := range d.Procs {
		w.line("process", number(p.Kind))
		w.stmts(p.Body)
		w.line("end")
	}
	return w.String()
}

// writer writes lines of words.
type writer struct {
	strings.Builder
	isInLine bool
}

// words adds words to the line.
func (w *writer) words(list ...string) {
	for _, word := range list {
		if w.isInLine {
			w.WriteByte(' ')
		}
		w.WriteString(word)
		w.isInLine = true
	}
}

// line adds words to the line, and ends it.
func (w *writer) line(list ...string) {
	w.words(list...)
	w.WriteByte('\n')
	w.isInLine = false
}

func (w *writer) stmts(list []Stmt) {
	for _, s := range list {
		w.words("statement", number(s.Kind), "assertion", number(s.Assert))
		w.words("target", number(s.Target.Sig), number(s.Target.Lo), number(s.Target.Width), number(len(s.Target.Index)))
		for _, e := range s.Target.Index {
			w.expr(e)
		}
		w.words("value")
		w.expr(s.Value)
		w.line()
		if len(s.Body) > 0 || len(s.Else) > 0 {
			w.line("then")
			w.stmts(s.Body)
			w.line("else")
			w.stmts(s.Else)
			w.line("end")
		}
	}
}

func (w *writer) expr(e typed.Expr) {
	w.words("(", number(e.Kind), number(e.Op), number(e.Width), number(e.Sig), number(e.Lo), truth(e.Signed), vector(e.Val))
	for _, arg := range e.Args {
		w.expr(arg)
	}
	w.words(")")
}

func number(n int) string { return strconv.Itoa(n) }

func truth(is bool) string { return strconv.FormatBool(is) }

// vector returns the bits of a vector. The zero vector has none.
func vector(v bv.Vec) string { return "'" + v.Text() }
