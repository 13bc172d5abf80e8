package elab_test

import (
	"fmt"
	"slices"
	"strings"
	"testing"

	"sluicegate/api"
	"sluicegate/ast"
	"sluicegate/bv"
	"sluicegate/elab"
	"sluicegate/flat"
	"sluicegate/sample"
	"sluicegate/typed"
)

// mark is put before the token at whose position an error is expected.
const mark = "«"

// unmarked returns a text without its mark, and the position of that, which is
// zero if there is none.
func unmarked(text string) (string, api.Pos) {
	before, after, found := strings.Cut(text, mark)
	if !found {
		return text, api.Pos{}
	}
	line := before[strings.LastIndex(before, "\n")+1:]
	return before + after, api.Pos{File: 1, Line: 1 + strings.Count(before, "\n"), Col: 1 + len(line)}
}

func source(t *testing.T, text string) []ast.Module {
	t.Helper()
	list, ok := sample.Modules(text)
	if !ok {
		t.Fatalf("no source: %s", text)
	}
	return list
}

// built returns the design of the module top, which must have no error and be
// valid.
func built(t *testing.T, promise, text string) flat.Design {
	t.Helper()
	mods := source(t, text)
	before := show(mods)
	d, pos, err := elab.Elaborate(mods, "top")
	if err != api.OK || pos != (api.Pos{}) {
		t.Fatalf("%s: error %d at %v: %s", promise, err, pos, text)
	}
	if _, _, err := flat.Analyze(d); err != api.OK {
		t.Errorf("P14.1: error %d: %s", err, text)
	}
	if fault := faultOf(d); fault != "" {
		t.Errorf("P14.1: %s: %s", fault, text)
	}
	if show(mods) != before {
		t.Errorf("%s: an argument has changed: %s", promise, text)
	}
	return d
}

// mustFail fails unless the error of a text is the one at its mark.
func mustFail(t *testing.T, want api.Errno, text string) {
	t.Helper()
	text, at := unmarked(text)
	d, pos, err := elab.Elaborate(source(t, text), "top")
	if err != want || pos != at {
		t.Errorf("P14.5: error %d at %v, not %d at %v: %s", err, pos, want, at, text)
	}
	if show(d) != show(flat.Design{}) {
		t.Errorf("P14.5: a design with an error: %s", text)
	}
}

// mustFailIn does that for the items of a module top with these ports.
func mustFailIn(t *testing.T, want api.Errno, ports string, items ...string) {
	t.Helper()
	for _, x := range items {
		mustFail(t, want, "module top ("+ports+"); "+x+" endmodule")
	}
}

// mustEqual fails unless all texts have the same design except for positions.
func mustEqual(t *testing.T, promise string, texts ...string) {
	t.Helper()
	want := flat.Text(built(t, promise, texts[0]))
	for _, text := range texts[1:] {
		if have := flat.Text(built(t, promise, text)); have != want {
			t.Errorf("%s: different designs:\n%s\n%s\n%s\n%s", promise, texts[0], want, text, have)
		}
	}
}

// show writes something without a difference between nil and empty lists.
func show(x any) string { return fmt.Sprintf("%+v", x) }

// names returns the names of the signals of a design.
func names(d flat.Design) string {
	var list []string
	for _, x := range d.Sigs {
		list = append(list, x.Name)
	}
	return strings.Join(list, " ")
}

// numberOf returns the number of a signal.
func numberOf(d flat.Design, name string) int {
	return slices.IndexFunc(d.Sigs, func(x typed.Sig) bool { return x.Name == name })
}

func vec(width int, n uint64) bv.Vec {
	v, _ := bv.New(width, n)
	return v
}

// machine executes a design as chapter 13 says.
type machine struct {
	flat.Design
	info  flat.Info
	sigs  []bv.Vec
	words map[int][]bv.Vec
	fails []string // the assertions that did not hold at the last step
}

// run returns a machine in which all bits are 0 but those of Starts.
func run(d flat.Design) *machine {
	m := &machine{Design: d, words: map[int][]bv.Vec{}}
	m.info, _, _ = flat.Analyze(d)
	for i, x := range d.Sigs {
		m.sigs = append(m.sigs, vec(x.Width, 0))
		for range x.Words {
			m.words[i] = append(m.words[i], vec(x.Width, 0))
		}
	}
	for _, x := range d.Starts {
		m.sigs[x.Sig] = x.Val
	}
	m.settle()
	return m
}

func (m *machine) Sig(n int) bv.Vec { return m.sigs[n] }

func (m *machine) Word(n, at int) bv.Vec {
	if at < len(m.words[n]) {
		return m.words[n][at]
	}
	return vec(m.Sigs[n].Width, 0)
}

// set assigns to inputs in order.
func (m *machine) set(values ...uint64) {
	for i, n := range values {
		sig := m.Inputs[i]
		m.sigs[sig] = vec(m.Sigs[sig].Width, n)
	}
	m.settle()
}

// get returns the value of a signal as a number.
func (m *machine) get(name string) uint64 { return m.sigs[numberOf(m.Design, name)].Words()[0] }

func (m *machine) settle() {
	for _, p := range m.info.Order {
		m.execute(m.Procs[p].Body, nil)
	}
}

func (m *machine) step() {
	var later []func()
	m.fails = nil
	for _, p := range m.Procs {
		if p.Kind == flat.Clocked {
			m.execute(p.Body, &later)
		}
	}
	for _, write := range later {
		write()
	}
	m.settle()
}

func (m *machine) execute(list []flat.Stmt, later *[]func()) {
	for _, s := range list {
		v := typed.Eval(s.Value, m)
		switch s.Kind {
		case flat.Set:
			m.write(s.Target, v)()
		case flat.Later:
			*later = append(*later, m.write(s.Target, v))
		case flat.If:
			if v.Num(1) != 0 {
				m.execute(s.Body, later)
			} else {
				m.execute(s.Else, later)
			}
		case flat.Assert:
			if v.Num(1) == 0 {
				m.fails = append(m.fails, m.Asserts[s.Assert])
			}
		}
	}
}

// write returns what performs an assignment.
func (m *machine) write(t flat.Target, v bv.Vec) func() {
	lo := t.Lo
	if len(t.Index) > 0 {
		lo = typed.Eval(t.Index[0], m).Num(1000)
	}
	return func() {
		if words := m.words[t.Sig]; words != nil {
			if lo < len(words) {
				words[lo] = v
			}
			return
		}
		if next, err := bv.Put(m.sigs[t.Sig], lo, v); err == api.OK {
			m.sigs[t.Sig] = next
		}
	}
}
