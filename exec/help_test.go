package exec_test

import (
	"fmt"
	"strings"
	"testing"

	"sluicegate/api"
	"sluicegate/bv"
	"sluicegate/exec"
	"sluicegate/flat"
	"sluicegate/sample"
	"sluicegate/typed"
)

func vec(width int, n uint64) bv.Vec {
	v, _ := bv.New(width, n)
	return v
}

// show writes something without a difference between nil and empty lists.
func show(x any) string { return fmt.Sprintf("%+v", x) }

// design returns one with the given signals.
func design(sigs ...typed.Sig) flat.Design { return flat.Design{Sigs: sigs} }

// sizes are designs' signals of many widths and memories of many sizes.
func sizes() []typed.Sig {
	var list []typed.Sig
	for _, width := range []int{1, 2, 4, 63, 64, 65, 127, api.MaxWidth} {
		for _, words := range []int{0, 1, 3, api.MaxWords} {
			list = append(list, typed.Sig{Width: width, Words: words})
		}
	}
	return list
}

// content writes what a state holds of a signal or memory.
func content(x typed.Sig, i int, s *exec.State) string {
	words := []string{s.Sig(i).Text()}[min(x.Words, 1):]
	for at := range x.Words {
		words = append(words, s.Word(i, at).Text())
	}
	return strings.Join(words, ",")
}

// contents writes all that a state of a design holds.
func contents(d flat.Design, s *exec.State) string {
	var words []string
	for i, x := range d.Sigs {
		words = append(words, content(x, i, s))
	}
	return strings.Join(words, " ")
}

// differing returns the signals that two states of a design do not have in
// common.
func differing(d flat.Design, a, b *exec.State) []int {
	var list []int
	for i, x := range d.Sigs {
		if content(x, i, a) != content(x, i, b) {
			list = append(list, i)
		}
	}
	return list
}

// writes writes Writes: a target, and what is assigned to it.
func writes(d flat.Design, list ...exec.Write) string {
	var words []string
	for _, w := range list {
		word := d.Sigs[w.Target.Sig].Name
		if len(w.Target.Index) > 0 {
			word += fmt.Sprintf("[%d]", w.At)
		} else {
			word += fmt.Sprintf("[%d+%d]", w.Target.Lo, w.Target.Width)
		}
		words = append(words, word+"="+w.Val.Text())
	}
	return strings.Join(words, " ")
}

// checks writes Checks.
func checks(list ...exec.Check) string {
	var words []string
	for _, c := range list {
		words = append(words, fmt.Sprintf("%d:%t", c.Assert, c.Holds))
	}
	return strings.Join(words, " ")
}

// clocked returns the design with the statements of a Clocked process, which is
// its process 0. The signals t and u are Temps, q and r Regs of other widths,
// and m is a memory.
func clocked(t *testing.T, text string) flat.Design {
	t.Helper()
	d, ok := sample.Elaborated("module top (input clk, input [3:0] a, input [127:0] b); reg [3:0] t; reg [3:0] u; reg [3:0] q; reg [7:0] r; reg [3:0] m [0:4]; " +
		"always @(posedge clk) begin " + text + " if (0) begin t = t; u = u; q <= q; r <= r; end end endmodule")
	if !ok {
		t.Fatalf("no design: %s", text)
	}
	return d
}

// The signals of these designs.
const (
	a = iota
	b
	tt
	u
	q
	r
	m
)
