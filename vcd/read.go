package vcd

import (
	"slices"
	"strconv"
	"strings"

	"sluicegate/api"
	"sluicegate/bv"
)

const (
	mostText        = 1 << 20
	mostWidthDigits = 3
	mostTimeDigits  = 6
)

// word is a word of a dump. Without text, it stands for the end of the dump.
type word struct {
	text string
	line int
}

// reader reads the words of a dump up to the first error.
type reader struct {
	text    string
	at      int // the offset of the next byte
	line    int // the line of that
	trace   Trace
	numbers map[string]int // of the variables, by their Ids
	err     api.Errno
	errLine int
}

// Read returns the trace of a dump, or the first error and its line.
func Read(s string) (Trace, int, api.Errno) {
	if len(s) > mostText {
		return Trace{}, 1, api.ErrSize
	}
	r := &reader{text: s, line: 1, numbers: map[string]int{}}
	r.definitions()
	r.times()
	if r.err != api.OK {
		return Trace{}, r.errLine, r.err
	}
	return r.trace, 0, api.OK
}

// definitions reads all up to the first time.
func (r *reader) definitions() {
	r.must(r.element(), "$timescale")
	r.skip()
	r.must(r.element(), "$scope")
	r.expect("module")
	r.trace.Top = r.name().text
	r.expect("$end")
	w := r.element()
	for ; w.text == "$var"; w = r.element() {
		r.variable()
	}
	r.must(w, "$upscope")
	r.expect("$end")
	r.must(r.element(), "$enddefinitions")
	r.expect("$end")
}

// variable reads what comes after $var.
func (r *reader) variable() {
	r.expect("wire")
	width := r.width()
	id := r.take()
	if !isId(id.text) {
		r.fail(id, api.ErrName)
	}
	if _, isKnown := r.numbers[id.text]; isKnown {
		r.fail(id, api.ErrTwice)
	}
	name := r.name()
	isSame := func(x Var) bool { return x.Name == name.text }
	if slices.ContainsFunc(r.trace.Vars, isSame) {
		r.fail(name, api.ErrTwice)
	}
	if len(r.trace.Vars) == api.MaxSignals {
		r.fail(name, api.ErrLimit)
	}
	r.expect("$end")
	r.numbers[id.text] = len(r.trace.Vars)
	r.trace.Vars = append(r.trace.Vars, Var{name.text, width})
}

// width reads that of a variable.
func (r *reader) width() int {
	w := r.take()
	n, isNumber := decimal(w.text, mostWidthDigits)
	if !isNumber {
		r.fail(w, api.ErrForm)
	}
	if !isWidth(n) {
		r.fail(w, api.ErrWidth)
	}
	return n
}

// name reads that of a variable or of the scope.
func (r *reader) name() word {
	w := r.take()
	if !isWord(w.text) {
		r.fail(w, api.ErrName)
	}
	return w
}

// times reads times and their changes up to the end of the dump.
func (r *reader) times() {
	for w := r.element(); w.text != ""; w = r.element() {
		switch {
		case w.text[0] == '#':
			r.time(w)
		case len(r.trace.Values) > 0:
			r.change(w)
		default:
			r.fail(w, api.ErrForm)
		}
	}
}

// time adds a time, which begins with the values of the one before it.
func (r *reader) time(w word) {
	count := len(r.trace.Values)
	n, isNumber := decimal(w.text[1:], mostTimeDigits)
	switch {
	case !isNumber:
		r.fail(w, api.ErrForm)
	case n != count:
		r.fail(w, api.ErrRange)
	case n == api.MaxCycles:
		r.fail(w, api.ErrLimit)
	case n == 0:
		r.trace.Values = [][]bv.Vec{zeros(r.trace.Vars...)}
	default:
		r.trace.Values = append(r.trace.Values, slices.Clone(r.trace.Values[count-1]))
	}
}

// change reads a change that begins with w.
func (r *reader) change(w word) {
	digits, isList := strings.CutPrefix(w.text, "b")
	id := word{w.text[1:], w.line}
	if !isList {
		digits = w.text[:1]
	}
	isBinary := every(digits, func(c byte) bool { return c == '0' || c == '1' })
	if !isBinary || id.text == "" {
		r.fail(w, api.ErrForm)
		return
	}
	if isList {
		id = r.take()
	}
	i, isKnown := r.numbers[id.text]
	if !isKnown {
		r.fail(id, api.ErrNone)
		return
	}
	width := r.trace.Vars[i].Width
	switch {
	case !isList && width != 1:
		r.fail(w, api.ErrForm)
	case len(digits) > width:
		r.fail(w, api.ErrRange)
	default:
		r.trace.Values[len(r.trace.Values)-1][i] = vector(width, digits)
	}
}

// element returns the next word that does not belong to a comment.
func (r *reader) element() word {
	w := r.next()
	for ; w.text == "$comment"; w = r.next() {
		r.skip()
	}
	return w
}

// skip reads all words up to $end.
func (r *reader) skip() {
	for w := r.take(); w.text != "" && w.text != "$end"; w = r.take() {
	}
}

// expect reads words that have to come next.
func (r *reader) expect(words ...string) {
	for _, text := range words {
		r.must(r.take(), text)
	}
}

// must fails unless the next word is the required one.
func (r *reader) must(w word, text string) {
	if w.text == "" {
		r.fail(w, api.ErrEnd)
	}
	if w.text != text {
		r.fail(w, api.ErrForm)
	}
}

// take returns the next word, which there must be.
func (r *reader) take() word {
	w := r.next()
	if w.text == "" {
		r.fail(w, api.ErrEnd)
	}
	return w
}

// next returns the next word. At the end of the dump, it has the line of the last
// byte.
func (r *reader) next() word {
	for r.at < len(r.text) && isBlank(r.text[r.at]) {
		r.pass()
	}
	start := r.at
	for r.at < len(r.text) && !isBlank(r.text[r.at]) {
		r.pass()
	}
	return word{r.text[start:r.at], r.line}
}

// pass passes over a byte. The last one does not begin a line.
func (r *reader) pass() {
	r.at++
	if r.at < len(r.text) && r.text[r.at-1] == '\n' {
		r.line++
	}
}

// fail keeps the first error. After it there are no words, so that everything ends.
func (r *reader) fail(w word, err api.Errno) {
	if r.err == api.OK {
		r.err, r.errLine = err, w.line
	}
	r.at = len(r.text)
}

func isBlank(c byte) bool { return c == ' ' || c == '\t' || c == '\r' || c == '\n' }

// decimal returns the number that at most so many digits are.
func decimal(s string, most int) (int, bool) {
	n, err := strconv.ParseUint(s, 10, 32)
	return int(n), err == nil && len(s) <= most
}

// zeros returns the vector of zeros for each variable.
func zeros(list ...Var) []bv.Vec {
	var row []bv.Vec
	for _, x := range list {
		v, _ := bv.New(x.Width)
		row = append(row, v)
	}
	return row
}

// vector returns the vector with these digits as its least significant bits.
func vector(width int, digits string) bv.Vec {
	bits := make([]bool, width)
	for i := range len(digits) {
		bits[len(digits)-1-i] = digits[i] == '1'
	}
	v, _ := bv.Of(bits...)
	return v
}
