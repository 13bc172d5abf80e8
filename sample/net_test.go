package sample_test

import (
	"math/rand/v2"
	"reflect"
	"testing"

	"sluicegate/api"
	"sluicegate/net"
	"sluicegate/sample"
)

func TestNetIsValid(t *testing.T) {
	pick := sample.Choice(rand.New(rand.NewPCG(3, 1)).IntN)
	kinds, ports, ends := map[int]int{}, 0, 0
	for range 2000 {
		n := pick.Net()
		if err := n.Check(); err != api.OK {
			t.Fatalf("error %d\n%+v", err, n)
		}
		for _, x := range n.Nodes {
			kinds[x.Kind]++
		}
		for _, m := range n.Mems {
			ports += len(m.Ports)
		}
		ends += len(n.Outs) + len(n.Asserts)
	}
	for kind := net.Const; kind <= net.Ext; kind++ {
		if kinds[kind] < 500 {
			t.Errorf("%d nodes have the kind %d", kinds[kind], kind)
		}
	}
	if ports < 500 || ends < 500 {
		t.Errorf("%d write ports, %d outputs and assertions", ports, ends)
	}
}

func TestNetDependsOnChoicesOnly(t *testing.T) {
	for seed := range uint64(50) {
		a, b := sample.Choice(rand.New(rand.NewPCG(4, seed)).IntN), sample.Choice(rand.New(rand.NewPCG(4, seed)).IntN)
		if n := a.Net(); !reflect.DeepEqual(n, b.Net()) || !reflect.DeepEqual(a.Values(n), b.Values(n)) {
			t.Fatalf("%d", seed)
		}
	}
}

func TestValuesFit(t *testing.T) {
	pick := sample.Choice(rand.New(rand.NewPCG(3, 2)).IntN)
	for range 300 {
		n := pick.Net()
		v := pick.Values(n)
		if len(v.Ins) != len(n.Inputs) || len(v.Regs) != len(n.Regs) || len(v.Words) != len(n.Mems) {
			t.Fatalf("%+v", v)
		}
		for i, x := range n.Inputs {
			if v.Ins[i].Width() != x.Width {
				t.Fatalf("input %d has %d bits, not %d", i, v.Ins[i].Width(), x.Width)
			}
		}
		for i, x := range n.Regs {
			if v.Regs[i].Width() != x.Width {
				t.Fatalf("register %d has %d bits, not %d", i, v.Regs[i].Width(), x.Width)
			}
		}
		for i, x := range n.Mems {
			if len(v.Words[i]) != x.Words || v.Words[i][x.Words-1].Width() != x.Width {
				t.Fatalf("memory %d has the words %v, not %d of %d bits", i, v.Words[i], x.Words, x.Width)
			}
		}
	}
}

func TestDisturbNetChangesANet(t *testing.T) {
	pick := sample.Choice(rand.New(rand.NewPCG(3, 3)).IntN)
	errors := map[api.Errno]int{}
	for range 2000 {
		n := pick.Net()
		pick.DisturbNet(n)
		errors[n.Check()]++
	}
	for _, err := range []api.Errno{api.OK, api.ErrInval, api.ErrRange, api.ErrWidth} {
		if errors[err] < 150 {
			t.Errorf("error %d only %d times", err, errors[err])
		}
	}
}
