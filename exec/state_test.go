package exec_test

import (
	"math"
	"math/rand/v2"
	"testing"

	"sluicegate/api"
	"sluicegate/bv"
	"sluicegate/exec"
	"sluicegate/flat"
	"sluicegate/sample"
	"sluicegate/typed"
)

func TestP15_1New(t *testing.T) {
	d := design(sizes()...)
	d.Starts = []flat.Start{{Sig: 0, Val: vec(1, 1)}}
	s := exec.New(d)
	for i, x := range d.Sigs {
		if x.Words == 0 && s.Sig(i) != vec(x.Width, 0) {
			t.Errorf("P15.1: signal %d: %s", i, s.Sig(i).Text())
		}
		for at := range x.Words {
			if s.Word(i, at) != vec(x.Width, 0) {
				t.Errorf("P15.1: word %d of %d: %s", at, i, s.Word(i, at).Text())
			}
		}
	}
	if !exec.New(flat.Design{}).Same(exec.New(flat.Design{})) {
		t.Error("P15.1: empty designs")
	}
}

// TestP15_1Missing: signals, memories and words that do not exist.
func TestP15_1Missing(t *testing.T) {
	d := design(typed.Sig{Width: 4}, typed.Sig{Width: 5, Words: 3}, typed.Sig{Width: 128, Words: api.MaxWords})
	s := sample.Choice(rand.New(rand.NewPCG(15, 1)).IntN).State(d)
	for _, n := range []int{1, 2, 3, -1, math.MinInt, math.MaxInt} {
		if v := s.Sig(n); v != (bv.Vec{}) {
			t.Errorf("P15.1: signal %d: %s", n, v.Text())
		}
	}
	for _, at := range []int{-1, 3, 64, 1 << 40, math.MinInt, math.MaxInt} {
		if v := s.Word(1, at); v != vec(5, 0) {
			t.Errorf("P15.1: word %d: %s", at, v.Text())
		}
		if v := s.Word(2, at); at != 3 && v != vec(128, 0) {
			t.Errorf("P15.1: word %d: %s", at, v.Text())
		}
	}
	for _, n := range []int{0, 3, -1, math.MinInt, math.MaxInt} {
		for _, at := range []int{0, 1, -1, 64} {
			if v := s.Word(n, at); v != (bv.Vec{}) {
				t.Errorf("P15.1: word %d of %d: %s", at, n, v.Text())
			}
		}
	}
}

// TestP15_1Set: everything can be set, and only that changes.
func TestP15_1Set(t *testing.T) {
	d := design(sizes()...)
	pick := sample.Choice(rand.New(rand.NewPCG(15, 2)).IntN)
	s := exec.New(d)
	for range 3 {
		for i, x := range d.Sigs {
			v := pick.Vec(x.Width)
			before := s.Clone()
			if x.Words == 0 {
				if err := s.SetSig(i, v); err != api.OK || s.Sig(i) != v {
					t.Errorf("P15.1: signal %d: error %d, %s, not %s", i, err, s.Sig(i).Text(), v.Text())
				}
			}
			for at := range x.Words {
				v := pick.Vec(x.Width)
				if err := s.SetWord(i, at, v); err != api.OK || s.Word(i, at) != v {
					t.Errorf("P15.1: word %d of %d: error %d, %s, not %s", at, i, err, s.Word(i, at).Text(), v.Text())
				}
				if at+1 < x.Words && s.Word(i, at+1) != before.Word(i, at+1) {
					t.Errorf("P15.1: word %d of %d has changed with the one before it", at+1, i)
				}
			}
			for _, n := range differing(d, before, s) {
				if n != i {
					t.Errorf("P15.1: signal %d has changed with %d", n, i)
				}
			}
		}
	}
}

func TestP15_1Errors(t *testing.T) {
	d := design(typed.Sig{Width: 4}, typed.Sig{Width: 4, Words: 3}, typed.Sig{Width: 128}, typed.Sig{Width: 1, Words: api.MaxWords})
	s := sample.Choice(rand.New(rand.NewPCG(15, 3)).IntN).State(d)
	before := s.Clone()
	for _, x := range []struct {
		n    int
		v    bv.Vec
		want api.Errno
	}{
		{1, vec(4, 1), api.ErrRange}, {3, vec(1, 1), api.ErrRange}, {4, vec(4, 1), api.ErrRange}, {-1, vec(4, 1), api.ErrRange},
		{math.MaxInt, vec(4, 1), api.ErrRange}, {math.MinInt, vec(4, 1), api.ErrRange},
		{0, vec(3, 1), api.ErrWidth}, {0, vec(5, 1), api.ErrWidth}, {0, bv.Vec{}, api.ErrWidth}, {2, vec(127, 1), api.ErrWidth},
		{1, vec(5, 1), api.ErrRange}, {4, bv.Vec{}, api.ErrRange}, {1, bv.Vec{}, api.ErrRange}, // both apply
	} {
		if err := s.SetSig(x.n, x.v); err != x.want {
			t.Errorf("P15.1: signal %d to %s: error %d, not %d", x.n, x.v.Text(), err, x.want)
		}
	}
	for _, x := range []struct {
		n, at int
		v     bv.Vec
		want  api.Errno
	}{
		{0, 0, vec(4, 1), api.ErrRange}, {2, 0, vec(128, 1), api.ErrRange}, {4, 0, vec(4, 1), api.ErrRange}, {-1, 0, vec(4, 1), api.ErrRange},
		{1, 3, vec(4, 1), api.ErrRange}, {1, -1, vec(4, 1), api.ErrRange}, {1, math.MaxInt, vec(4, 1), api.ErrRange}, {1, math.MinInt, vec(4, 1), api.ErrRange},
		{3, 64, vec(1, 1), api.ErrRange}, {3, 1 << 40, vec(1, 1), api.ErrRange},
		{1, 0, vec(3, 1), api.ErrWidth}, {1, 2, vec(5, 1), api.ErrWidth}, {1, 1, bv.Vec{}, api.ErrWidth}, {3, 63, vec(2, 1), api.ErrWidth},
		{1, 3, vec(5, 1), api.ErrRange}, {0, 0, bv.Vec{}, api.ErrRange}, {math.MaxInt, 0, bv.Vec{}, api.ErrRange}, // both apply
	} {
		if err := s.SetWord(x.n, x.at, x.v); err != x.want {
			t.Errorf("P15.1: word %d of %d to %s: error %d, not %d", x.at, x.n, x.v.Text(), err, x.want)
		}
	}
	if !s.Same(before) || contents(d, s) != contents(d, before) {
		t.Error("P15.1: something changes with an error")
	}
	if s.SetWord(3, api.MaxWords-1, vec(1, 1)) != api.OK || s.SetSig(2, vec(128, 1)) != api.OK {
		t.Error("P15.1: the last word, or the greatest width")
	}
}

// TestP15_1Clone: a copy is the same, and neither changes with the other one.
func TestP15_1Clone(t *testing.T) {
	d := design(sizes()...)
	pick := sample.Choice(rand.New(rand.NewPCG(15, 4)).IntN)
	s := pick.State(d)
	text := contents(d, s)
	o := s.Clone()
	if !o.Same(s) || contents(d, o) != text {
		t.Error("P15.1: a copy differs")
	}
	p := s.Clone()
	for i, x := range d.Sigs {
		flip := func(v bv.Vec) bv.Vec { v, _ = bv.Un(bv.Not, v); return v }
		s.SetSig(i, flip(s.Sig(i)))
		for at := range x.Words {
			o.SetWord(i, at, vec(x.Width, 0))
			p.SetWord(i, at, flip(p.Word(i, at)))
		}
	}
	for i, x := range d.Sigs {
		if x.Words == 0 && (s.Sig(i) == o.Sig(i) || o.Sig(i) != p.Sig(i)) || x.Words != 0 && (s.Word(i, 0) == p.Word(i, 0) || o.Word(i, 0) != vec(x.Width, 0)) {
			t.Errorf("P15.1: signal %d of copies", i)
		}
	}
	for i := range d.Sigs {
		d.Sigs[i] = typed.Sig{Width: 1}
	}
	if s.Sig(0).Width() != 1 || s.Sig(4).Width() != 2 || s.Word(1, 0).Width() != 1 || s.Word(29, 0).Width() != 128 {
		t.Error("P15.1: a state changes with the design")
	}
}

// TestP15_1Same: each bit counts.
func TestP15_1Same(t *testing.T) {
	d := design(sizes()...)
	s := sample.Choice(rand.New(rand.NewPCG(15, 5)).IntN).State(d)
	o := s.Clone()
	mustDiffer := func(i, bit int, old bv.Vec, set func(v bv.Vec) api.Errno) {
		flipped, _ := bv.New(1, 1)
		if old.Bit(bit) {
			flipped = vec(1, 0)
		}
		v, _ := bv.Put(old, bit, flipped)
		if set(v) != api.OK || s.Same(o) || o.Same(s) {
			t.Errorf("P15.1: bit %d of signal %d", bit, i)
		}
		if set(old) != api.OK || !s.Same(o) || !o.Same(s) {
			t.Errorf("P15.1: bit %d of signal %d, changed twice", bit, i)
		}
	}
	for i, x := range d.Sigs {
		for bit := range x.Width {
			if x.Words == 0 {
				mustDiffer(i, bit, o.Sig(i), func(v bv.Vec) api.Errno { return s.SetSig(i, v) })
			}
			for at := range x.Words {
				mustDiffer(i, bit, o.Word(i, at), func(v bv.Vec) api.Errno { return s.SetWord(i, at, v) })
			}
		}
	}
	if !s.Same(s) {
		t.Error("P15.1: a state and itself")
	}
}

// TestP15_1SameZeros: words that were not 0 are like those that always were.
func TestP15_1SameZeros(t *testing.T) {
	d := design(typed.Sig{Width: 2, Words: 2}, typed.Sig{Width: 3})
	s, o := exec.New(d), exec.New(d)
	s.SetWord(0, 1, vec(2, 3))
	s.SetSig(1, vec(3, 3))
	s.SetWord(0, 1, vec(2, 0))
	s.SetSig(1, vec(3, 0))
	o.SetWord(0, 0, vec(2, 0))
	if !s.Same(o) || !o.Same(s) || !s.Same(exec.New(d)) {
		t.Error("P15.1: zeros")
	}
}

// TestP15_1SameSizes: states of designs with other signals are not the same.
func TestP15_1SameSizes(t *testing.T) {
	var list []*exec.State
	for _, sigs := range [][]typed.Sig{
		{}, {{Width: 1}}, {{Width: 2}}, {{Width: 1, Words: 1}}, {{Width: 1, Words: 2}}, {{Width: 2, Words: 2}},
		{{Width: 1}, {Width: 1}}, {{Width: 1}, {Width: 1, Words: 1}},
	} {
		list = append(list, exec.New(design(sigs...)))
	}
	for i, s := range list {
		for j, o := range list {
			if s.Same(o) != (i == j) {
				t.Errorf("P15.1: designs %d and %d: %v", i, j, s.Same(o))
			}
		}
		if s.Same(nil) {
			t.Errorf("P15.1: design %d and no state", i)
		}
	}
}

// TestP15_1OddSizes: calls return for designs with any numbers.
func TestP15_1OddSizes(t *testing.T) {
	odd := []int{math.MinInt, -1, 0, 1, 128, 129, 1 << 40, math.MaxInt}
	for _, width := range odd {
		for _, words := range odd {
			s := exec.New(design(typed.Sig{Width: width, Words: words}))
			for _, n := range odd {
				for _, at := range odd {
					for _, v := range []bv.Vec{{}, vec(1, 1), vec(128, 1)} {
						sigErr, wordErr := s.SetSig(n, v), s.SetWord(n, at, v)
						isThere := n == 0 && v.Width() == width
						if (sigErr == api.OK) != (isThere && words == 0) || (wordErr == api.OK) != (isThere && at >= 0 && at < words) {
							t.Errorf("P15.1: width %d, words %d: errors %d and %d for %d, %d", width, words, sigErr, wordErr, n, at)
						}
						s.Sig(n)
						s.Word(n, at)
					}
				}
			}
			if !s.Clone().Same(s) {
				t.Errorf("P15.1: width %d, words %d", width, words)
			}
		}
	}
	var none *exec.State
	if none.Sig(0) != (bv.Vec{}) || none.Word(0, 0) != (bv.Vec{}) || none.SetSig(0, vec(1, 0)) != api.ErrRange || none.SetWord(0, 0, vec(1, 0)) != api.ErrRange || none.Clone() != nil || !none.Same(nil) {
		t.Error("P15.1: no state")
	}
}
