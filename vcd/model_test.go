package vcd_test

import (
	"regexp"
	"slices"
	"strconv"
	"strings"
	"testing"

	"sluicegate/api"
	"sluicegate/bv"
	"sluicegate/sample"
	"sluicegate/vcd"
)

// token is a word of a dump, and its line.
type token struct {
	text string
	line int
}

// model reads a dump as the chapter says, word by word. It panics with an error, which
// read returns.
type model struct {
	left  []token
	last  int // the line of the last byte
	trace vcd.Trace
	ids   []string
}

type fault struct {
	line int
	err  api.Errno
}

var (
	words   = regexp.MustCompile("[^ \t\r\n]+")
	isNumer = regexp.MustCompile("^[0-9]{1,3}$").MatchString
	isTime  = regexp.MustCompile("^#[0-9]{1,6}$").MatchString
	isList  = regexp.MustCompile("^b[01]+$").MatchString
	isBit   = regexp.MustCompile("(?s)^[01].").MatchString
	isId    = regexp.MustCompile("^[!-~]{1,200}$").MatchString
)

func expected(s string) (x vcd.Trace, f fault) {
	m := &model{last: 1 + strings.Count(s[:max(len(s)-1, 0)], "\n")}
	for _, at := range words.FindAllStringIndex(s, -1) {
		m.left = append(m.left, token{s[at[0]:at[1]], 1 + strings.Count(s[:at[0]], "\n")})
	}
	defer func() {
		if e := recover(); e != nil {
			x, f = vcd.Trace{}, e.(fault)
		}
	}()
	m.read()
	return m.trace, fault{}
}

func (m *model) take() token {
	if len(m.left) == 0 {
		panic(fault{m.last, api.ErrEnd})
	}
	w := m.left[0]
	m.left = m.left[1:]
	return w
}

func (m *model) need(holds bool, w token, err api.Errno) {
	if !holds {
		panic(fault{w.line, err})
	}
}

func (m *model) fixed(list ...string) {
	for _, text := range list {
		w := m.take()
		m.need(w.text == text, w, api.ErrForm)
	}
}

func (m *model) through() {
	for m.take().text != "$end" {
	}
}

func (m *model) comments() {
	for len(m.left) > 0 && m.left[0].text == "$comment" {
		m.through()
	}
}

func (m *model) has(text string) bool {
	m.comments()
	return len(m.left) > 0 && m.left[0].text == text
}

func (m *model) name() token {
	w := m.take()
	m.need(isId(w.text) && w.text[0] != '$', w, api.ErrName)
	return w
}

func (m *model) read() {
	m.comments()
	m.fixed("$timescale")
	m.through()
	m.comments()
	m.fixed("$scope", "module")
	m.trace.Top = m.name().text
	m.fixed("$end")
	for m.has("$var") {
		m.variable()
	}
	m.fixed("$upscope", "$end")
	m.comments()
	m.fixed("$enddefinitions", "$end")
	for m.comments(); len(m.left) > 0; m.comments() {
		if w := m.take(); strings.HasPrefix(w.text, "#") {
			m.time(w)
		} else {
			m.need(len(m.trace.Values) > 0, w, api.ErrForm)
			m.change(w)
		}
	}
}

func (m *model) variable() {
	m.fixed("$var", "wire")
	w := m.take()
	m.need(isNumer(w.text), w, api.ErrForm)
	width, _ := strconv.Atoi(w.text)
	m.need(1 <= width && width <= 128, w, api.ErrWidth)
	w = m.take()
	m.need(isId(w.text), w, api.ErrName)
	m.need(!slices.Contains(m.ids, w.text), w, api.ErrTwice)
	m.ids = append(m.ids, w.text)
	w = m.name()
	for _, x := range m.trace.Vars {
		m.need(x.Name != w.text, w, api.ErrTwice)
	}
	m.need(len(m.trace.Vars) < 300, w, api.ErrLimit)
	m.trace.Vars = append(m.trace.Vars, vcd.Var{Name: w.text, Width: width})
	m.fixed("$end")
}

func (m *model) time(w token) {
	m.need(isTime(w.text), w, api.ErrForm)
	number, _ := strconv.Atoi(w.text[1:])
	m.need(number == len(m.trace.Values), w, api.ErrRange)
	m.need(number < 200, w, api.ErrLimit)
	var row []bv.Vec
	for i, x := range m.trace.Vars {
		if number > 0 {
			row = append(row, m.trace.Values[number-1][i])
		} else {
			row = append(row, vec(x.Width, 0))
		}
	}
	m.trace.Values = append(m.trace.Values, row)
}

func (m *model) change(w token) {
	bits, id := w.text[:1], token{w.text[1:], w.line}
	if isList(w.text) {
		bits, id = w.text[1:], m.take()
	} else {
		m.need(isBit(w.text), w, api.ErrForm)
	}
	i := slices.Index(m.ids, id.text)
	m.need(i >= 0, id, api.ErrNone)
	width := m.trace.Vars[i].Width
	m.need(isList(w.text) || width == 1, w, api.ErrForm)
	m.need(len(bits) <= width, w, api.ErrRange)
	var list []bool
	for _, c := range slices.Backward([]byte(strings.Repeat("0", width-len(bits)) + bits)) {
		list = append(list, c == '1')
	}
	m.trace.Values[len(m.trace.Values)-1][i], _ = bv.Of(list...)
}

// mustAgree fails unless Read returns what the model does. It returns the error.
func mustAgree(t *testing.T, s string) api.Errno {
	t.Helper()
	want, f := expected(s)
	if f.err == api.OK {
		if got := mustRead(t, s); show(got) != show(want) {
			t.Fatalf("P25.3: %s, not %s: %s", short(show(got)), short(show(want)), short(s))
		}
	} else {
		mustReject(t, s, f.err, f.line)
	}
	if t.Failed() {
		t.FailNow()
	}
	return f.err
}

// parts are words that a dump may consist of, or not.
var parts = []string{
	"$timescale", "$scope", "module", "$var", "wire", "$upscope", "$enddefinitions", "$comment", "$end", "$", "$dumpvars", "1", "ns", "m", "a", "b", "0", "2", "4", "007", "128", "129",
	"999", "1000", "0001", "x", "-1", "+1", "#", "#0", "#1", "#2", "#00", "#000001", "#0000001", "#-1", "##", "#x", "#200", "#999999", "b", "b0", "b1", "b01", "b2", "b1x", "bx", "B1",
	"b11111", "!", "\"", "1!", "0!", "1\"", "x!", "0", "1\x80", "\x00", "\x7f", "é", "\x0b", "1#", "r1.5", "b" + strings.Repeat("1", 129),
}

// disturbed returns a text in which words are missing, moved, changed or separated in
// another way.
func disturbed(pick sample.Choice, s string) string {
	list := strings.Fields(s)
	for range pick(4) {
		i := pick(len(list) + 1)
		switch part := parts[pick(len(parts))]; pick(5) {
		case 0:
			list = slices.Insert(list, i, part)
		case 1:
			list = slices.Delete(list, i, min(i+1, len(list)))
		case 2:
			list = slices.Replace(list, i, min(i+1, len(list)), part)
		case 3:
			list = slices.Insert(list, i, "$comment", part, "$end")
		case 4:
			list = slices.Insert(list, i, slices.Clone(list[i:min(i+6, len(list))])...)
		}
	}
	gaps := []string{" ", "\n", "\n", "\t", "\r", "\r\n", " \n\n ", "  "}
	text := gaps[pick(len(gaps))]
	for _, word := range list {
		text += word + gaps[pick(len(gaps))]
	}
	return text
}

// TestP25_3AnyText: dumps that were disturbed.
func TestP25_3AnyText(t *testing.T) {
	pick := chooser(25, 2)
	count := map[api.Errno]int{}
	for range 30000 {
		x := anyTrace(pick, 3, 3)
		if pick(2) == 0 {
			x = usual()
		}
		s := disturbed(pick, dump(x))
		if pick(5) == 0 {
			s = s[:pick(len(s))]
		}
		count[mustAgree(t, s)]++
	}
	for _, err := range []api.Errno{api.OK, api.ErrEnd, api.ErrForm, api.ErrWidth, api.ErrName, api.ErrTwice, api.ErrNone, api.ErrRange} {
		if count[err] < 20 {
			t.Errorf("P25.3: error %d only %d times", err, count[err])
		}
	}
}

// TestP25_3AnyWords: words in any order, after a beginning.
func TestP25_3AnyWords(t *testing.T) {
	pick := chooser(25, 3)
	all := strings.Fields(dump(usual()))
	for range 30000 {
		list := slices.Clone(all[:pick(len(all)+1)])
		for range pick(8) {
			list = append(list, parts[pick(len(parts))])
		}
		mustAgree(t, strings.Join(list, "\n"))
	}
}

// TestP25_3AnyBytes: bytes in any order, and bytes that were changed.
func TestP25_3AnyBytes(t *testing.T) {
	pick := chooser(25, 4)
	all := dump(usual())
	for range 30000 {
		text := []byte(all[:pick(len(all)+1)])
		for range pick(3) {
			if len(text) > 0 {
				text[pick(len(text))] = byte(pick(256))
			}
		}
		for range pick(4) {
			text = append(text, "$#b01! \n\t\r\"\x00\xff"[pick(13)])
		}
		mustAgree(t, string(text))
	}
}

// TestP25_3EveryWord: every word of a dump is removed, doubled, and replaced by every
// part.
func TestP25_3EveryWord(t *testing.T) {
	list := strings.Fields("$comment c $end " + dump(usual()) + " $comment d $end")
	for i := range list {
		mustAgree(t, strings.Join(slices.Delete(slices.Clone(list), i, i+1), "\n"))
		mustAgree(t, strings.Join(slices.Insert(slices.Clone(list), i, list[i]), "\n"))
		mustAgree(t, strings.Join(list[:i], "\n"))
		mustAgree(t, strings.Join(slices.Insert(slices.Clone(list), i, "$comment", "#1", "$comment", "$end"), "\n"))
		for _, part := range parts {
			mustAgree(t, strings.Join(slices.Replace(slices.Clone(list), i, i+1, part), "\n"))
			mustAgree(t, strings.Join(slices.Insert(slices.Clone(list), i, part), "\n"))
		}
	}
}
