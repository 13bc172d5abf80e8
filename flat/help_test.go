package flat_test

import (
	"fmt"
	"testing"

	"sluicegate/api"
	"sluicegate/bv"
	"sluicegate/flat"
	"sluicegate/typed"
)

// The signals of the tests that need no others: an input, two signals, and a
// memory with words as wide as them.
const (
	in = iota
	y
	z
	mem
)

const width = 4

// ref returns all bits of a signal of the tests.
func ref(sig int) typed.Expr { return typed.Expr{Kind: typed.Ref, Width: width, Sig: sig} }

// slice returns a part of a signal of the tests.
func slice(sig, lo, size int) typed.Expr {
	return typed.Expr{Kind: typed.Slice, Width: size, Lo: lo, Args: []typed.Expr{ref(sig)}}
}

// word returns the word of the memory with the number at.
func word(at typed.Expr) typed.Expr {
	return typed.Expr{Kind: typed.Word, Width: width, Sig: mem, Args: []typed.Expr{at}}
}

// zero returns a constant.
func zero(size int) typed.Expr { return typed.Num(vec(size, 0)) }

func vec(size int, n uint64) bv.Vec {
	v, _ := bv.New(size, n)
	return v
}

// whole returns a statement that assigns to all bits of a signal.
func whole(kind, sig int, e typed.Expr) flat.Stmt { return part(kind, sig, 0, width, e) }

// part returns a statement that assigns to bits of a signal.
func part(kind, sig, lo, size int, e typed.Expr) flat.Stmt {
	return flat.Stmt{Kind: kind, Target: flat.Target{Sig: sig, Lo: lo, Width: size}, Value: e}
}

// indexed returns a statement that assigns to a bit of a signal or a word.
func indexed(kind, sig int, index, e typed.Expr) flat.Stmt {
	return flat.Stmt{Kind: kind, Target: flat.Target{Sig: sig, Index: []typed.Expr{index}}, Value: e}
}

// list returns statements as a list.
func list(stmts ...flat.Stmt) []flat.Stmt { return stmts }

func branch(e typed.Expr, body, other []flat.Stmt) flat.Stmt {
	return flat.Stmt{Kind: flat.If, Value: e, Body: body, Else: other}
}

func assert(e typed.Expr) flat.Stmt { return flat.Stmt{Kind: flat.Assert, Value: e} }

// proc returns a process.
func proc(kind int, body ...flat.Stmt) flat.Proc { return flat.Proc{Kind: kind, Body: body} }

// sigPos and procPos are the positions of signals and processes.
func sigPos(i int) api.Pos  { return api.Pos{File: 1, Line: 1, Col: i + 1} }
func procPos(i int) api.Pos { return api.Pos{File: 1, Line: 2, Col: i + 1} }

// placed returns a design with positions.
func placed(d flat.Design) flat.Design {
	d.Places = nil
	for i := range d.Sigs {
		d.Places = append(d.Places, sigPos(i))
	}
	procs := d.Procs
	d.Procs = nil
	for i, p := range procs {
		p.Pos = procPos(i)
		d.Procs = append(d.Procs, p)
	}
	return d
}

// design returns the design of the usual signals with these processes.
func design(procs ...flat.Proc) flat.Design {
	sigs := []typed.Sig{{Name: "in", Width: width}, {Name: "y", Width: width}, {Name: "z", Width: width}, {Name: "mem", Width: width, Words: 3}}
	return placed(flat.Design{Sigs: sigs, Inputs: []int{in}, Outputs: []int{y}, Procs: procs})
}

// driven returns that design, in which z is not left without a process.
func driven(procs ...flat.Proc) flat.Design {
	return design(append(procs, proc(flat.Wire, whole(flat.Set, z, zero(width))))...)
}

// mustAccept returns what Analyze finds out.
func mustAccept(t *testing.T, promise, what string, d flat.Design) flat.Info {
	t.Helper()
	x, pos, err := flat.Analyze(d)
	if err != api.OK || pos != (api.Pos{}) {
		t.Errorf("%s: %s: error %d at %v", promise, what, err, pos)
	}
	return x
}

func mustReject(t *testing.T, what string, d flat.Design, want api.Errno, at api.Pos) {
	t.Helper()
	x, pos, err := flat.Analyze(d)
	if err != want || pos != at || len(x.Roles) > 0 || len(x.Order) > 0 {
		t.Errorf("P13.2: %s: %v, error %d at %v; want error %d at %v", what, x, err, pos, want, at)
	}
}

// show writes something without a difference between nil and empty lists.
func show(x any) string { return fmt.Sprintf("%+v", x) }
