package flat_test

import (
	"testing"

	"sluicegate/flat"
	"sluicegate/typed"
)

// chained returns a design with a process for each element of reads: it sets
// the signal with its number plus 1, and reads those with these numbers. Signal
// 0 is an input.
func chained(kinds []int, reads [][]int) flat.Design {
	d := flat.Design{Sigs: []typed.Sig{{Width: 1}}, Inputs: []int{0}}
	for i, list := range reads {
		d.Sigs = append(d.Sigs, typed.Sig{Width: 1})
		e := zero(1)
		for _, sig := range list {
			e = typed.Two(0, e, typed.Signal(sig, typed.Sig{Width: 1}))
		}
		kind := flat.Set
		if kinds[i] == flat.Clocked {
			kind = flat.Later
		}
		d.Procs = append(d.Procs, proc(kinds[i], part(kind, i+1, 0, 1, e)))
	}
	return placed(d)
}

func TestP13_3Order(t *testing.T) {
	const w, c, k = flat.Wire, flat.Comb, flat.Clocked
	for _, x := range []struct {
		kinds []int
		reads [][]int
		want  []int
	}{
		{nil, nil, nil},
		{[]int{w, w, w}, [][]int{{0}, {0}, {}}, []int{0, 1, 2}},
		{[]int{w, w, w}, [][]int{{2}, {3}, {0}}, []int{2, 1, 0}},
		{[]int{w, c, w}, [][]int{{3}, {0}, {0}}, []int{1, 2, 0}},
		{[]int{c, w, c, w}, [][]int{{4}, {0}, {2}, {}}, []int{1, 2, 3, 0}},
		{[]int{c, w, c, w}, [][]int{{4}, {1}, {}, {}}, []int{2, 3, 0, 1}},
		{[]int{w, w, w, w, w}, [][]int{{5}, {5}, {2}, {}, {4}}, []int{3, 4, 0, 1, 2}},
		{[]int{w, w, w, w, w}, [][]int{{3, 5}, {}, {2, 2}, {1, 2}, {}}, []int{1, 2, 4, 0, 3}},
		{[]int{k, w, k}, [][]int{{2}, {1, 3}, {1}}, []int{1}},
		{[]int{w, k, w}, [][]int{{2}, {1}, {1, 2}}, []int{0, 2}},
		{[]int{k, k}, [][]int{{1}, {2}}, nil},
	} {
		info := mustAccept(t, "P13.3", show(x.reads), chained(x.kinds, x.reads))
		if show(info.Order) != show(x.want) {
			t.Errorf("P13.3: %v: %v, not %v", x.reads, info.Order, x.want)
		}
	}
}

// TestP13_3Bits: only those bits count that are read.
func TestP13_3Bits(t *testing.T) {
	d := driven(
		proc(flat.Wire, part(flat.Set, y, 2, 2, slice(y, 0, 2))),
		proc(flat.Wire, part(flat.Set, y, 0, 1, slice(y, 1, 1))),
		proc(flat.Wire, part(flat.Set, y, 1, 1, slice(in, 1, 1))),
	)
	if x := mustAccept(t, "P13.3", "bits", d); show(x.Order) != show([]int{2, 1, 0, 3}) {
		t.Errorf("P13.3: %v", x.Order)
	}
}

// TestP13_3ManyProcesses: a long chain, and one process that many others need.
func TestP13_3ManyProcesses(t *testing.T) {
	const count = 2000
	var kinds []int
	var down, all [][]int
	for i := range count {
		kinds = append(kinds, flat.Wire+i%2)
		down = append(down, []int{(i + 2) % (count + 1)})
		all = append(all, []int{count})
	}
	all[count-1] = nil
	x, y := mustAccept(t, "P13.3", "a chain", chained(kinds, down)), mustAccept(t, "P13.3", "a star", chained(kinds, all))
	for i := range count {
		if x.Order[i] != count-1-i || y.Order[i] != (i+count-1)%count {
			t.Fatalf("P13.3: %d: %d, %d", i, x.Order[i], y.Order[i])
		}
	}
}
