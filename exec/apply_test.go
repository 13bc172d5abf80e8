package exec_test

import (
	"math"
	"testing"

	"sluicegate/bv"
	"sluicegate/exec"
	"sluicegate/flat"
	"sluicegate/typed"
)

// set returns a Write of some bits of a signal.
func set(sig, lo, width int, n uint64) exec.Write {
	return exec.Write{Target: flat.Target{Sig: sig, Lo: lo, Width: width}, Val: vec(width, n)}
}

// setAt returns a Write to a bit or a word of the given width. The Index of its
// target has another value by now.
func setAt(sig, at, width int, n uint64) exec.Write {
	index := []typed.Expr{typed.Num(vec(3, 1))}
	return exec.Write{Target: flat.Target{Sig: sig, Index: index}, At: at, Val: vec(width, n)}
}

// wrong returns a Write of a vector that has another width than its target.
func wrong(w exec.Write, width int) exec.Write {
	w.Val = vec(width, 1)
	return w
}

func TestP15_3Apply(t *testing.T) {
	for _, x := range []struct {
		list    []exec.Write
		changed []int
		want    string
	}{
		{nil, nil, "0001 00000000 1000,1001,1010"},
		{[]exec.Write{set(0, 0, 4, 6)}, []int{0}, "0110 00000000 1000,1001,1010"},
		{[]exec.Write{set(1, 2, 3, 5), set(0, 3, 1, 1)}, []int{0, 1}, "1001 00010100 1000,1001,1010"},
		{[]exec.Write{setAt(1, 7, 1, 1), setAt(2, 2, 4, 3)}, []int{1, 2}, "0001 10000000 1000,1001,0011"},
		// in order
		{[]exec.Write{set(0, 0, 4, 6), set(0, 0, 4, 7)}, []int{0}, "0111 00000000 1000,1001,1010"},
		{[]exec.Write{set(1, 0, 8, 255), set(1, 2, 4, 0), setAt(1, 3, 1, 1)}, []int{1}, "0001 11001011 1000,1001,1010"},
		{[]exec.Write{setAt(1, 3, 1, 1), set(1, 2, 4, 0), set(1, 7, 1, 1)}, []int{1}, "0001 10000000 1000,1001,1010"},
		{[]exec.Write{setAt(2, 0, 4, 1), setAt(2, 1, 4, 2), setAt(2, 0, 4, 3)}, []int{2}, "0001 00000000 0011,0010,1010"},
		{[]exec.Write{setAt(2, 0, 4, 1), set(1, 0, 8, 1), set(0, 0, 4, 0), setAt(2, 2, 4, 0)}, []int{0, 1, 2}, "0000 00000001 0001,1001,0000"},
		// what has not changed in the end
		{[]exec.Write{set(0, 0, 4, 1)}, nil, "0001 00000000 1000,1001,1010"},
		{[]exec.Write{set(0, 0, 4, 6), set(0, 0, 4, 1)}, nil, "0001 00000000 1000,1001,1010"},
		{[]exec.Write{set(0, 1, 2, 3), setAt(0, 1, 1, 0), setAt(0, 2, 1, 0)}, nil, "0001 00000000 1000,1001,1010"},
		{[]exec.Write{setAt(2, 1, 4, 9), setAt(2, 0, 4, 0), setAt(2, 0, 4, 8)}, nil, "0001 00000000 1000,1001,1010"},
		{[]exec.Write{setAt(2, 1, 4, 0), setAt(2, 0, 4, 0), setAt(2, 1, 4, 9)}, []int{2}, "0001 00000000 0000,1001,1010"},
		{[]exec.Write{set(1, 0, 8, 7), set(0, 0, 4, 6), set(1, 0, 8, 0)}, []int{0}, "0110 00000000 1000,1001,1010"},
	} {
		d := design(typed.Sig{Width: 4}, typed.Sig{Width: 8}, typed.Sig{Width: 4, Words: 3})
		s := exec.New(d)
		s.SetSig(0, vec(4, 1))
		for at := range 3 {
			s.SetWord(2, at, vec(4, 8+uint64(at)))
		}
		before := s.Clone()
		text := show(x.list)
		if l := exec.Apply(s, x.list...); show(l) != show(x.changed) || contents(d, s) != x.want || show(differing(d, s, before)) != show(x.changed) {
			t.Errorf("P15.3: %v: %v, %s, not %v, %s", x.list, l, contents(d, s), x.changed, x.want)
		}
		if show(x.list) != text {
			t.Errorf("P15.3: an argument has changed: %v", x.list)
		}
	}
}

// TestP15_3Nowhere: a Write to what does not exist has no effect, and no effect
// on the Writes after it.
func TestP15_3Nowhere(t *testing.T) {
	d := design(typed.Sig{Width: 4}, typed.Sig{Width: 128}, typed.Sig{Width: 4, Words: 3}, typed.Sig{Width: 1, Words: 64})
	var list []exec.Write
	for _, n := range []int{-1, 4, math.MinInt, math.MaxInt} {
		list = append(list, set(n, 0, 4, 3), setAt(n, 0, 4, 3), setAt(n, 0, 1, 1))
	}
	for _, at := range []int{4, 5, -1, 128, 1 << 40, math.MinInt, math.MaxInt} {
		list = append(list, setAt(0, at, 1, 1), setAt(2, at, 4, 3))
	}
	for _, at := range []int{64, 128, -1, 1 << 40} {
		list = append(list, setAt(3, at, 1, 1))
	}
	list = append(list, setAt(1, 128, 1, 1), setAt(2, 3, 4, 1),
		set(0, 4, 1, 1), set(0, 3, 2, 3), set(0, 1, 4, 15), set(0, 0, 5, 31), set(0, -1, 2, 3), set(0, -1, 1, 1), set(0, math.MaxInt, 4, 1), set(0, math.MinInt, 4, 1),
		set(1, 1, 128, 1), set(1, 127, 2, 3), set(2, 0, 4, 3), set(2, 1, 1, 1), set(3, 0, 1, 1),
		exec.Write{}, exec.Write{Val: vec(4, 3)}, exec.Write{Target: flat.Target{Sig: 2}, Val: vec(4, 3)}, exec.Write{Target: flat.Target{Sig: 1, Width: math.MaxInt}, Val: vec(128, 3)},
		wrong(set(0, 0, 4, 0), 3), wrong(set(0, 0, 3, 0), 4), wrong(setAt(0, 1, 1, 0), 2), wrong(setAt(2, 1, 4, 0), 3), wrong(setAt(2, 1, 4, 0), 5),
		exec.Write{Target: flat.Target{Sig: 0, Width: 4}}, exec.Write{Target: setAt(2, 0, 1, 1).Target})
	s := exec.New(d)
	before := s.Clone()
	for _, w := range list {
		if l := exec.Apply(s, w); len(l) != 0 || !s.Same(before) {
			t.Errorf("P15.3: %v: %v, %s", w, l, contents(d, s))
			s = before.Clone()
		}
	}
	good := setAt(3, 63, 1, 1)
	if l := exec.Apply(s, append(append([]exec.Write{good}, list...), set(0, 0, 4, 9))...); show(l) != "[0 3]" || s.Sig(0) != vec(4, 9) || s.Word(3, 63) != vec(1, 1) {
		t.Errorf("P15.3: %v, %s", l, contents(d, s))
	}
	if l := exec.Apply(nil, list...); len(l) != 0 {
		t.Errorf("P15.3: %v of no state", l)
	}
	if w, c, l := exec.Run(nil, flat.Proc{Body: []flat.Stmt{{Kind: flat.Set, Target: list[0].Target, Value: typed.Num(bv.Vec{})}}}); len(w)+len(c)+len(l) != 0 {
		t.Errorf("P15.2: %v, %v, %v of no state", w, c, l)
	}
}

// TestP15_3OtherStates: the state decides what there is, so that Writes of one
// state can be applied to another one.
func TestP15_3OtherStates(t *testing.T) {
	d := clocked(t, "t = a; q <= t; m[t] <= t; r[t] <= 1; m[1] <= t;")
	s := started(d)
	w, _, _ := exec.Run(s, d.Procs[0])
	o := exec.New(d)
	if l := exec.Apply(o, w...); show(l) != show([]int{q, r, m}) || o.Sig(q) != vec(4, 5) || o.Sig(r) != vec(8, 32) || o.Word(m, 1) != vec(4, 5) || o.Sig(tt) != vec(4, 0) {
		t.Errorf("P15.3: %v, %s", l, contents(d, o))
	}
	if l := exec.Apply(o, w...); len(l) != 0 {
		t.Errorf("P15.3: %v again", l)
	}
}
