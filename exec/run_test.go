package exec_test

import (
	"testing"

	"sluicegate/bv"
	"sluicegate/exec"
	"sluicegate/flat"
	"sluicegate/typed"
)

// started returns a state of those designs in which everything is different: a
// is 5, b has bit 100, t, u, q and r are 1, 2, 3 and 200, and each word is 8 plus
// its number.
func started(d flat.Design) *exec.State {
	s := exec.New(d)
	high, _ := bv.New(128, 0, 1<<36)
	s.SetSig(a, vec(4, 5))
	s.SetSig(b, high)
	for i, n := range []uint64{1, 2, 3} {
		s.SetSig(tt+i, vec(4, n))
	}
	s.SetSig(r, vec(8, 200))
	for at := range 5 {
		s.SetWord(m, at, vec(4, 8+uint64(at)))
	}
	return s
}

func TestP15_2Run(t *testing.T) {
	for _, x := range []struct {
		text, writes, checks string
		changed              []int
		t, u                 uint64
	}{
		{"", "", "", nil, 1, 2},
		// Set takes effect immediately, Later does not.
		{"t = 3; q <= t;", "q[0+4]=0011", "", []int{tt}, 3, 2},
		{"q <= a; r <= q;", "q[0+4]=0101 r[0+8]=00000011", "", nil, 1, 2},
		{"t = u; u = t;", "", "", []int{tt}, 2, 2},
		{"u = t; t = a + u;", "", "", []int{tt, u}, 6, 1},
		{"t = 6; q <= t; t = 7; q <= t;", "q[0+4]=0110 q[0+4]=0111", "", []int{tt}, 7, 2},
		{"m[1] <= 5; q <= m[1];", "m[1]=0101 q[0+4]=1001", "", nil, 1, 2},
		// parts
		{"t[2:1] = 3;", "", "", []int{tt}, 7, 2},
		{"t[3] = 1; t[0] = 0;", "", "", []int{tt}, 8, 2},
		{"r[6:2] <= a; r[7] <= 1;", "r[2+5]=00101 r[7+1]=1", "", nil, 1, 2},
		// an Index
		{"t[a[1:0]] = 1;", "", "", []int{tt}, 3, 2},
		{"t[a] = 1;", "", "", nil, 1, 2},
		{"t[b] = 1;", "", "", nil, 1, 2},
		{"t[u + a[0]] = 1; u[t] = 1;", "", "", []int{tt}, 9, 2},
		{"q[t] <= 1; t = 3; q[t] <= 0; m[t] <= t;", "q[1]=1 q[3]=0 m[3]=0011", "", []int{tt}, 3, 2},
		{"m[9] <= 1; q[a] <= 1; m[a] <= 2;", "m[9]=0001 q[5]=1 m[5]=0010", "", nil, 1, 2},
		// what has changed
		{"t = 1;", "", "", nil, 1, 2},
		{"t = 7; t = 1;", "", "", nil, 1, 2},
		{"t[0] = 0; t[0] = 1; u = 3; u[0] = 0;", "", "", nil, 1, 2},
		{"u = 0; t = 0;", "", "", []int{tt, u}, 0, 0},
		{"u = 0; t = 0; u = 1; t = 5; u = 4;", "", "", []int{tt, u}, 5, 4},
		// If
		{"if (a) t = 3; else u = 3;", "", "", []int{tt}, 3, 2},
		{"if (a == 4) t = 3; else u = 3;", "", "", []int{u}, 1, 3},
		{"if (b) t = 3;", "", "", []int{tt}, 3, 2},
		{"if (!b) t = 3;", "", "", nil, 1, 2},
		{"if (a[1]) t = 3; else if (a[2]) q <= 9; else m[0] <= 1;", "q[0+4]=1001", "", nil, 1, 2},
		{"t = 0; if (t) u = 3; else begin u = 4; if (u) t = 9; end q <= t;", "q[0+4]=1001", "", []int{tt, u}, 9, 4},
		// Assert
		{"assert (a); assert (a == 4); assert (b); assert (u[0]);", "", "0:true 1:false 2:true 3:false", nil, 1, 2},
		{"if (a[1]) assert (1); assert (t == 1); t = 2; assert (t == 1); if (t) assert (t == 2);", "", "1:true 2:false 3:true", []int{tt}, 2, 2},
		{"assert (q == 3); q <= 4; assert (q == 3);", "q[0+4]=0100", "0:true 1:true", nil, 1, 2},
	} {
		d := clocked(t, x.text)
		s := started(d)
		before := s.Clone()
		w, c, l := exec.Run(s, d.Procs[0])
		if writes(d, w...) != x.writes || checks(c...) != x.checks || show(l) != show(x.changed) {
			t.Errorf("P15.2: %s: %s; %s; %v", x.text, writes(d, w...), checks(c...), l)
		}
		if show(differing(d, s, before)) != show(x.changed) || s.Sig(tt) != vec(4, x.t) || s.Sig(u) != vec(4, x.u) {
			t.Errorf("P15.2: %s: %s", x.text, contents(d, s))
		}
	}
}

// TestP15_2Example: the example of the chapter.
func TestP15_2Example(t *testing.T) {
	d := design(typed.Sig{Width: 1}, typed.Sig{Width: 1})
	s := exec.New(d)
	w, c, l := exec.Run(s, flat.Proc{Kind: flat.Clocked, Body: []flat.Stmt{
		{Kind: flat.Set, Target: flat.Target{Sig: 0, Width: 1}, Value: typed.Num(vec(1, 1))},
		{Kind: flat.Later, Target: flat.Target{Sig: 1, Width: 1}, Value: typed.Signal(0, d.Sigs[0])},
	}})
	want := []exec.Write{{Target: flat.Target{Sig: 1, Width: 1}, Val: vec(1, 1)}}
	if show(w) != show(want) || len(c) != 0 || show(l) != "[0]" || contents(d, s) != "1 0" {
		t.Errorf("P15.2: %v, %v, %v, %s", w, c, l, contents(d, s))
	}
}

// TestP15_2Kinds: the kind of a process makes no difference, and an assertion
// has the number that it has.
func TestP15_2Kinds(t *testing.T) {
	d := design(typed.Sig{Width: 4}, typed.Sig{Width: 4})
	for _, kind := range []int{flat.Wire, flat.Comb, flat.Clocked} {
		s := exec.New(d)
		s.SetSig(0, vec(4, 6))
		w, c, l := exec.Run(s, flat.Proc{Kind: kind, Body: []flat.Stmt{
			{Kind: flat.Set, Target: flat.Target{Sig: 1, Lo: 1, Width: 3}, Value: typed.Num(vec(3, 5))},
			{Kind: flat.Assert, Assert: 7, Value: typed.Signal(1, d.Sigs[1])},
			{Kind: flat.Assert, Assert: 2, Value: typed.Num(vec(128, 0))},
		}})
		if len(w) != 0 || checks(c...) != "7:true 2:false" || show(l) != "[1]" || contents(d, s) != "0110 1010" {
			t.Errorf("P15.2: kind %d: %v, %v, %v, %s", kind, w, c, l, contents(d, s))
		}
	}
}

// TestP15_2GreatIndexes: At is at most 2^40.
func TestP15_2GreatIndexes(t *testing.T) {
	d := clocked(t, "q[b] <= 1; m[b] <= 2; t = 0; t[b] = 1;")
	for _, x := range []struct {
		words []uint64
		want  int
	}{
		{[]uint64{0}, 0}, {[]uint64{3}, 3}, {[]uint64{63}, 63}, {[]uint64{1<<40 - 1}, 1<<40 - 1}, {[]uint64{1 << 40}, 1 << 40},
		{[]uint64{1<<40 + 1}, 1 << 40}, {[]uint64{1<<64 - 1}, 1 << 40}, {[]uint64{1 << 63}, 1 << 40}, {[]uint64{3, 1}, 1 << 40}, {[]uint64{0, 1 << 63}, 1 << 40},
	} {
		s := exec.New(d)
		v, _ := bv.New(128, x.words...)
		s.SetSig(b, v)
		w, _, _ := exec.Run(s, d.Procs[0])
		if len(w) != 2 || w[0].At != x.want || w[1].At != x.want {
			t.Errorf("P15.2: %s: %v", v.Text(), w)
		}
		if want := vec(4, 1<<min(x.want, 10)); s.Sig(tt) != want {
			t.Errorf("P15.2: bit %s: %s", v.Text(), s.Sig(tt).Text())
		}
	}
}

// TestP15_2Bits: of each bit and part of a signal, and of those that it does not
// have.
func TestP15_2Bits(t *testing.T) {
	for _, width := range []int{1, 5, 64, 65, 128} {
		d := design(typed.Sig{Width: width}, typed.Sig{Width: 8})
		index := []typed.Expr{typed.Signal(1, d.Sigs[1])}
		for at := range 256 {
			s := exec.New(d)
			s.SetSig(1, vec(8, uint64(at)))
			_, _, l := exec.Run(s, flat.Proc{Body: []flat.Stmt{{Kind: flat.Set, Target: flat.Target{Index: index}, Value: typed.Num(vec(1, 1))}}})
			bits := s.Sig(0).Bits()
			for i, is := range bits {
				if is != (i == at) || (len(l) == 1) != (at < width) {
					t.Fatalf("P15.2: bit %d of %d: %s, %v", at, width, s.Sig(0).Text(), l)
				}
			}
		}
		for lo := range width {
			s := exec.New(d)
			ones, _ := bv.Un(bv.Not, vec(width-lo, 0))
			exec.Run(s, flat.Proc{Body: []flat.Stmt{{Kind: flat.Set, Target: flat.Target{Lo: lo, Width: width - lo}, Value: typed.Num(ones)}}})
			for i, is := range s.Sig(0).Bits() {
				if is != (i >= lo) {
					t.Fatalf("P15.2: bits from %d of %d: %s", lo, width, s.Sig(0).Text())
				}
			}
		}
	}
}

// TestP15_2ResultsAreNew: a Write does not change with the process or with what
// else Run returns, nor these with it.
func TestP15_2ResultsAreNew(t *testing.T) {
	d := clocked(t, "q[a + u] <= 1; m[a + u] <= 2; assert (a);")
	s := started(d)
	before := show(d)
	w, c, _ := exec.Run(s, d.Procs[0])
	other, otherChecks, _ := exec.Run(s, d.Procs[0])
	text := show(other)
	if show(w) != text {
		t.Fatalf("P15.2: %v, then %v", w, other)
	}
	for i := range w {
		w[i].Target.Index[0].Args[0] = typed.Num(vec(4, 0))
		w[i].Target.Index[0] = typed.Num(vec(4, 0))
	}
	clear(w)
	clear(c)
	if show(other) != text || show(d) != before || checks(otherChecks...) != "0:true" {
		t.Error("P15.2: a result shares memory")
	}
	d.Procs[0].Body[0].Target.Index[0].Args[1] = typed.Num(vec(4, 0))
	d.Procs[0].Body[1].Target.Index[0] = typed.Num(vec(4, 0))
	if show(other) != text {
		t.Error("P15.2: a result changes with the process")
	}
}
