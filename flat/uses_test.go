package flat_test

import (
	"testing"

	"sluicegate/bv"
	"sluicegate/flat"
	"sluicegate/typed"
)

// used writes a list of uses, the bits with the most significant first.
func used(list []flat.Use) string {
	text := ""
	for _, x := range list {
		v, _ := bv.Of(x.Bits...)
		text += " " + []string{"in", "y", "z", "mem"}[x.Sig] + ":" + v.Text()
	}
	return text
}

func TestP13_1Reads(t *testing.T) {
	d := design()
	pick := typed.Expr{Kind: typed.Pick, Width: 1, Args: []typed.Expr{ref(y), slice(z, 1, 2)}}
	nested := typed.Expr{Kind: typed.Slice, Width: 1, Lo: 1, Args: []typed.Expr{slice(y, 2, 2)}}
	ofSum := typed.Expr{Kind: typed.Slice, Width: 1, Lo: 1, Args: []typed.Expr{typed.Two(bv.Add, ref(y), slice(in, 0, 4))}}
	for _, x := range []struct {
		what string
		body []flat.Stmt
		want string
	}{
		{"nothing", nil, ""},
		{"a constant", list(whole(flat.Set, y, zero(width))), ""},
		{"a signal", list(whole(flat.Set, y, ref(in))), " in:1111"},
		{"a part", list(whole(flat.Set, y, slice(in, 1, 2))), " in:0110"},
		{"the lowest bit", list(whole(flat.Set, y, slice(in, 0, 1))), " in:0001"},
		{"the highest bit", list(whole(flat.Set, y, slice(in, 3, 1))), " in:1000"},
		{"what it writes too", list(whole(flat.Set, y, ref(y)), whole(flat.Later, z, slice(z, 0, 1))), " y:1111 z:0001"},
		{"parts of a signal", list(whole(flat.Set, y, slice(in, 0, 1)), whole(flat.Set, y, slice(in, 2, 1))), " in:0101"},
		{"a part and all", list(whole(flat.Set, y, slice(in, 0, 1)), whole(flat.Set, y, ref(in))), " in:1111"},
		{"a part of a part", list(whole(flat.Set, z, nested)), " y:1100"},
		{"a part of an operation", list(whole(flat.Set, z, ofSum)), " in:1111 y:1111"},
		{"a bit", list(part(flat.Set, in, 0, 1, pick)), " y:1111 z:0110"},
		{"a word", list(whole(flat.Set, y, word(slice(in, 0, 2)))), " in:0011 mem:1"},
		{"an index", list(indexed(flat.Set, y, slice(z, 3, 1), zero(1))), " z:1000"},
		{"an index of a memory", list(indexed(flat.Later, mem, word(ref(z)), ref(in))), " in:1111 z:1111 mem:1"},
		{"a condition", list(branch(slice(z, 0, 1), nil, nil)), " z:0001"},
		{"branches", list(branch(zero(1), list(whole(flat.Set, y, slice(in, 0, 1))), list(branch(slice(in, 1, 1), nil, list(whole(flat.Set, y, slice(in, 2, 1))))))), " in:0111"},
		{"an assertion", list(assert(slice(in, 0, 2))), " in:0011"},
		{"an order", list(whole(flat.Set, y, word(ref(z))), whole(flat.Set, y, ref(in))), " in:1111 z:1111 mem:1"},
	} {
		for kind := range 4 {
			if text := used(flat.Reads(d, proc(kind, x.body...))); text != x.want {
				t.Errorf("P13.1: %s:%s, not%s", x.what, text, x.want)
			}
		}
	}
}

func TestP13_1Writes(t *testing.T) {
	d := design()
	for _, x := range []struct {
		what string
		body []flat.Stmt
		want string
	}{
		{"nothing", nil, ""},
		{"an assertion and a condition", list(assert(ref(in)), branch(ref(in), nil, nil)), ""},
		{"a signal", list(whole(flat.Set, y, ref(in))), " y:1111"},
		{"a signal later", list(whole(flat.Later, y, ref(in))), " y:1111"},
		{"a part", list(part(flat.Set, y, 1, 2, zero(2))), " y:0110"},
		{"the lowest bit", list(part(flat.Later, y, 0, 1, zero(1))), " y:0001"},
		{"the highest bit", list(part(flat.Set, y, 3, 1, zero(1))), " y:1000"},
		{"parts", list(part(flat.Set, y, 3, 1, zero(1)), part(flat.Later, y, 0, 1, zero(1))), " y:1001"},
		{"a bit with an index", list(indexed(flat.Set, y, ref(in), zero(1))), " y:1111"},
		{"a word", list(indexed(flat.Later, mem, ref(in), zero(width))), " mem:1"},
		{"branches", list(branch(ref(in), list(part(flat.Set, y, 0, 1, zero(1))), list(branch(ref(z), list(part(flat.Set, y, 1, 1, zero(1))), list(part(flat.Later, z, 0, 1, zero(1))))))), " y:0011 z:0001"},
		{"an order", list(indexed(flat.Later, mem, ref(in), zero(width)), whole(flat.Set, z, ref(y)), whole(flat.Set, in, ref(y))), " in:1111 z:1111 mem:1"},
	} {
		for kind := range 4 {
			if text := used(flat.Writes(d, proc(kind, x.body...))); text != x.want {
				t.Errorf("P13.1: %s:%s, not%s", x.what, text, x.want)
			}
		}
	}
}

// TestP13_1WideSignals: bits beyond the first word of a set.
func TestP13_1WideSignals(t *testing.T) {
	for _, size := range []int{1, 63, 64, 65, 127, 128} {
		d := flat.Design{Sigs: []typed.Sig{{Width: size}}}
		all := typed.Signal(0, d.Sigs[0])
		for _, lo := range []int{0, 1, 62, 63, 64, 126, 127} {
			for _, count := range []int{1, 2, 64, 65, 127, 128} {
				if lo+count > size {
					continue
				}
				p := proc(flat.Wire, part(flat.Set, 0, lo, count, typed.Part(all, lo, count)))
				reads, writes := flat.Reads(d, p), flat.Writes(d, p)
				if len(reads) != 1 || show(reads) != show(writes) || len(reads[0].Bits) != size {
					t.Fatalf("P13.1: %d bits from %d of %d: %v, %v", count, lo, size, reads, writes)
				}
				for i, is := range reads[0].Bits {
					if is != (i >= lo && i < lo+count) {
						t.Errorf("P13.1: %d bits from %d of %d: bit %d is %v", count, lo, size, i, is)
					}
				}
			}
		}
	}
}

// TestP13_1ResultsAreNew: a change of a result has no effect.
func TestP13_1ResultsAreNew(t *testing.T) {
	d := driven(proc(flat.Wire, whole(flat.Set, y, ref(in))))
	before := show(d)
	for range 2 {
		reads, writes := flat.Reads(d, d.Procs[0]), flat.Writes(d, d.Procs[0])
		if used(reads) != " in:1111" || used(writes) != " y:1111" {
			t.Errorf("P13.1:%s,%s", used(reads), used(writes))
		}
		clear(reads[0].Bits)
		clear(writes)
	}
	info, _, _ := flat.Analyze(d)
	clear(info.Roles)
	clear(info.Order)
	if show(d) != before {
		t.Error("P13.1: an argument has changed")
	}
}
