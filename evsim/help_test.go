package evsim_test

import (
	"fmt"
	"slices"
	"strings"
	"testing"

	"sluicegate/api"
	"sluicegate/bv"
	"sluicegate/evsim"
	"sluicegate/exec"
	"sluicegate/flat"
	"sluicegate/sample"
	"sluicegate/typed"
)

func vec(width int, n uint64) bv.Vec {
	v, _ := bv.New(width, n)
	return v
}

// show writes something without a difference between nil and empty lists.
func show(x any) string { return fmt.Sprintf("%+v", x) }

// design returns that of a text's module top.
func design(t *testing.T, text string) flat.Design {
	t.Helper()
	d, ok := sample.Elaborated(text)
	if !ok {
		t.Fatalf("no design: %s", text)
	}
	return d
}

// started returns a simulator.
func started(t *testing.T, d flat.Design, start *exec.State) *evsim.Sim {
	t.Helper()
	s, pos, err := evsim.New(d, start)
	if err != api.OK || pos != (api.Pos{}) || s == nil {
		t.Fatalf("P16.1: error %d at %v\n%s", err, pos, flat.Text(d))
	}
	return s
}

// simulator returns one for the module top of a text.
func simulator(t *testing.T, text string) (flat.Design, *evsim.Sim) {
	t.Helper()
	d := design(t, text)
	return d, started(t, d, nil)
}

// get returns a signal as a number.
func get(d flat.Design, s *evsim.Sim, name string) int {
	n := slices.IndexFunc(d.Sigs, func(x typed.Sig) bool { return x.Name == name })
	return s.State().Sig(n).Num(1 << 62)
}

// checks writes Checks.
func checks(list []exec.Check) string {
	var words []string
	for _, c := range list {
		words = append(words, fmt.Sprintf("%d:%t", c.Assert, c.Holds))
	}
	return strings.Join(words, " ")
}

// contents writes all that a state of a design holds.
func contents(d flat.Design, s *exec.State) string {
	text := ""
	for i, x := range d.Sigs {
		text += " " + x.Name + "=" + s.Sig(i).Text()
		for at := range x.Words {
			text += "," + s.Word(i, at).Text()
		}
	}
	return text
}

// somePicks returns picks that are chosen.
func somePicks(pick sample.Choice) []int {
	var list []int
	for range pick(30) * pick(2) {
		n := pick(40) - 20
		if pick(20) == 0 {
			n = []int{-1 << 63, 1<<63 - 1, 1 << 40, -1 << 40}[pick(4)]
		}
		list = append(list, n)
	}
	return list
}
