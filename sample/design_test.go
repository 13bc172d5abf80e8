package sample_test

import (
	"math/rand/v2"
	"reflect"
	"testing"

	"sluicegate/api"
	"sluicegate/bv"
	"sluicegate/flat"
	"sluicegate/sample"
	"sluicegate/typed"
)

// isWellFormed reports whether all widths of an expression are right.
func isWellFormed(e typed.Expr, sigs []typed.Sig) bool {
	var zeros []bv.Vec
	for _, arg := range e.Args {
		if !isWellFormed(arg, sigs) {
			return false
		}
		zeros = append(zeros, sample.Choice(func(int) int { return 0 }).Vec(arg.Width))
	}
	switch e.Kind {
	case typed.Const:
		return e.Val.Width() == e.Width
	case typed.Ref, typed.Word:
		return sigs[e.Sig].Width == e.Width && (sigs[e.Sig].Words > 0) == (len(e.Args) == 1)
	}
	return typed.Value(e, zeros...).Width() == e.Width
}

// faultIn returns the first statement that is not well-formed.
func faultIn(list []flat.Stmt, sigs []typed.Sig) []flat.Stmt {
	for i, x := range list {
		width := x.Value.Width
		if x.Kind == flat.Set || x.Kind == flat.Later {
			width = x.Target.Width
		}
		for _, e := range x.Target.Index {
			width = 1
			if sigs[x.Target.Sig].Words > 0 {
				width = sigs[x.Target.Sig].Width
			}
			if !isWellFormed(e, sigs) {
				return list[i : i+1]
			}
		}
		if !isWellFormed(x.Value, sigs) || width != x.Value.Width {
			return list[i : i+1]
		}
		if fault := append(faultIn(x.Body, sigs), faultIn(x.Else, sigs)...); fault != nil {
			return fault
		}
	}
	return nil
}

func TestDesignIsValid(t *testing.T) {
	r := rand.New(rand.NewPCG(1, 1))
	roles, kinds, asserts, shared := map[int]int{}, map[int]int{}, 0, 0
	for range 3000 {
		d := sample.Choice(r.IntN).Design()
		info, pos, err := flat.Analyze(d)
		if err != api.OK {
			t.Fatalf("error %d at %v\n%s", err, pos, flat.Text(d))
		}
		for _, role := range info.Roles {
			roles[role]++
		}
		writers := map[int]int{}
		for _, p := range d.Procs {
			kinds[p.Kind]++
			if fault := faultIn(p.Body, d.Sigs); fault != nil {
				t.Fatalf("%+v", fault)
			}
			for _, use := range flat.Writes(d, p) {
				writers[use.Sig]++
				shared += writers[use.Sig] / 2
			}
		}
		asserts += len(d.Asserts)
	}
	for n := flat.Input; n <= flat.Memory; n++ {
		if roles[n] < 1000 || n <= flat.Clocked && kinds[n] < 1000 {
			t.Errorf("%d signals have the role %d, %d processes that kind", roles[n], n, kinds[n])
		}
	}
	if asserts < 1000 || shared < 1000 {
		t.Errorf("%d assertions, %d signals with several processes", asserts, shared)
	}
}

func TestDesignDependsOnChoicesOnly(t *testing.T) {
	for seed := range uint64(50) {
		a := sample.Choice(rand.New(rand.NewPCG(2, seed)).IntN).Design()
		b := sample.Choice(rand.New(rand.NewPCG(2, seed)).IntN).Design()
		if !reflect.DeepEqual(a, b) {
			t.Fatalf("%d", seed)
		}
	}
}

func TestElaborated(t *testing.T) {
	d, ok := sample.Elaborated("module top (input a, output y); assign y = a; endmodule")
	if !ok || len(d.Procs) != 1 {
		t.Errorf("%v, %v", d, ok)
	}
	for _, text := range []string{"module", "module m (); endmodule", "module top (output y); endmodule"} {
		if d, ok := sample.Elaborated(text); ok || len(d.Sigs) > 0 {
			t.Errorf("%s: %v, %v", text, d, ok)
		}
	}
}
