package sample_test

import (
	"math/rand/v2"
	"testing"

	"sluicegate/api"
	"sluicegate/flat"
	"sluicegate/sample"
)

func TestStateAndIns(t *testing.T) {
	pick := sample.Choice(rand.New(rand.NewPCG(1, 3)).IntN)
	set, last := 0, 0
	for range 300 {
		d := pick.Design()
		s, ins := pick.State(d), pick.Ins(d)
		for i, sig := range d.Inputs {
			if ins[i].Width() != d.Sigs[sig].Width || len(ins) != len(d.Inputs) {
				t.Fatalf("%v", ins)
			}
		}
		for i, x := range d.Sigs {
			if s.Sig(i).Num(1) == 1 {
				set++
			}
			if s.Word(i, x.Words-1).Num(1) == 1 {
				last++
			}
		}
	}
	if set < 500 || last < 50 {
		t.Errorf("only %d signals and %d words are not 0", set, last)
	}
}

func TestDisturbChangesADesign(t *testing.T) {
	changed, accepted := 0, 0
	for seed := range uint64(300) {
		pick := sample.Choice(rand.New(rand.NewPCG(1, seed)).IntN)
		d := pick.Design()
		before := flat.Text(d)
		pick.Disturb(d)
		if flat.Text(d) != before {
			changed++
		}
		if _, _, err := flat.Analyze(d); err == api.OK {
			accepted++
		}
	}
	if changed < 200 || accepted < 100 || accepted > 299 {
		t.Errorf("%d designs have changed, %d are accepted", changed, accepted)
	}
	sample.Choice(func(int) int { return 0 }).Disturb(flat.Design{})
}
