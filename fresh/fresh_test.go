package fresh_test

import (
	"fmt"
	"math/rand/v2"
	"reflect"
	"testing"

	"sluicegate/flat"
	"sluicegate/fresh"
	"sluicegate/sample"
	"sluicegate/typed"
)

// spoil changes all that can be changed in expressions.
func spoil(list []typed.Expr) {
	for i := range list {
		spoil(list[i].Args)
		list[i] = typed.Expr{Kind: -1}
	}
}

func spoilStmts(list []flat.Stmt) {
	for i := range list {
		spoilStmts(list[i].Body)
		spoilStmts(list[i].Else)
		spoil(list[i].Target.Index)
		spoil(list[i].Value.Args)
		list[i] = flat.Stmt{Kind: -1}
	}
}

func TestProcsAreCopies(t *testing.T) {
	for seed := range uint64(200) {
		d := sample.Choice(rand.New(rand.NewPCG(1, seed)).IntN).Design()
		same := sample.Choice(rand.New(rand.NewPCG(1, seed)).IntN).Design()
		copies := fresh.Procs(d.Procs...)
		others := fresh.Procs(d.Procs...)
		if fmt.Sprint(copies) != fmt.Sprint(same.Procs) {
			t.Fatalf("%v, not %v", copies, same.Procs)
		}
		for i := range copies {
			spoilStmts(copies[i].Body)
			copies[i].Kind = -1
		}
		if !reflect.DeepEqual(d, same) || fmt.Sprint(others) != fmt.Sprint(same.Procs) {
			t.Fatal("a copy shares memory")
		}
	}
	if len(fresh.Procs()) != 0 {
		t.Error("no processes")
	}
}

func TestTargetIsACopy(t *testing.T) {
	index := []typed.Expr{{Kind: typed.Pick, Args: []typed.Expr{{Kind: typed.Ref, Sig: 2}}}}
	target := flat.Target{Sig: 1, Lo: 2, Width: 3, Index: index}
	before := fmt.Sprint(target)
	other := fresh.Target(target)
	if fmt.Sprint(other) != before {
		t.Errorf("%v, not %s", other, before)
	}
	spoil(other.Index)
	if fmt.Sprint(target) != before {
		t.Errorf("%v, not %s", target, before)
	}
}
