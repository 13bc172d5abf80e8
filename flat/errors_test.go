package flat_test

import (
	"testing"

	"sluicegate/api"
	"sluicegate/flat"
	"sluicegate/typed"
)

func TestP13_2Roles(t *testing.T) {
	d := design(
		proc(flat.Clocked, whole(flat.Set, z, ref(in)), indexed(flat.Later, mem, ref(z), ref(in))),
		proc(flat.Clocked, branch(ref(in), list(part(flat.Later, 5, 1, 1, zero(1))), nil)),
		proc(flat.Comb, whole(flat.Set, y, ref(in))),
		proc(flat.Wire, part(flat.Set, 4, 0, 2, zero(2))),
		proc(flat.Wire, part(flat.Set, 4, 2, 2, zero(2))),
	)
	d.Sigs = append(d.Sigs, typed.Sig{Name: "w", Width: width}, typed.Sig{Name: "r", Width: width}, typed.Sig{Name: "unread", Width: 1}, typed.Sig{Name: "unwritten", Width: 1, Words: 1})
	d.Inputs = append(d.Inputs, 6)
	x := mustAccept(t, "P13.2", "roles", placed(d))
	want := []int{flat.Input, flat.Net, flat.Temp, flat.Memory, flat.Net, flat.Reg, flat.Input, flat.Memory}
	if show(x.Roles) != show(want) {
		t.Errorf("P13.2: %v, not %v", x.Roles, want)
	}
	if x := mustAccept(t, "P13.2", "an empty design", flat.Design{}); len(x.Roles) != 0 || len(x.Order) != 0 {
		t.Errorf("P13.2: %v", x)
	}
}

func TestP13_2Numbers(t *testing.T) {
	for i, list := range [][]int{{flat.Set, flat.Later, flat.If, flat.Assert}, {flat.Wire, flat.Comb, flat.Clocked}, {flat.Input, flat.Net, flat.Reg, flat.Temp, flat.Memory}} {
		for at, n := range list {
			if n != at+1 {
				t.Errorf("P13.2: list %d: %v", i, list)
			}
		}
	}
}

// TestP13_2WrongKinds: item 1.
func TestP13_2WrongKinds(t *testing.T) {
	good := proc(flat.Wire, whole(flat.Set, y, ref(in)))
	word := indexed(flat.Set, mem, ref(in), zero(width))
	for _, x := range []struct {
		what string
		p    flat.Proc
	}{
		{"Later in a Wire", proc(flat.Wire, whole(flat.Later, z, ref(in)))},
		{"Later in a Comb", proc(flat.Comb, whole(flat.Set, z, ref(in)), whole(flat.Later, z, ref(in)))},
		{"Later in an If", proc(flat.Comb, branch(ref(in), nil, list(whole(flat.Later, z, ref(in)))))},
		{"Later of a memory", proc(flat.Comb, indexed(flat.Later, mem, ref(in), zero(width)))},
		{"Assert in a Wire", proc(flat.Wire, whole(flat.Set, z, ref(in)), assert(ref(in)))},
		{"Assert in a Comb", proc(flat.Comb, assert(ref(in)))},
		{"Assert in an If", proc(flat.Comb, branch(ref(in), list(branch(ref(in), list(assert(ref(in))), nil)), nil))},
		{"a memory in a Wire", proc(flat.Wire, word)},
		{"a memory in a Comb", proc(flat.Comb, word)},
		{"a memory in a Clocked", proc(flat.Clocked, word)},
		{"a memory in an If", proc(flat.Clocked, branch(ref(in), nil, list(word)))},
		{"an Index in a Wire", proc(flat.Wire, indexed(flat.Set, z, ref(in), zero(1)))},
		{"an Index in a Wire with all bits", proc(flat.Wire, whole(flat.Set, z, zero(width)), indexed(flat.Set, z, ref(in), zero(1)))},
		{"an Index in an If of a Wire", proc(flat.Wire, branch(ref(in), list(indexed(flat.Set, z, ref(in), zero(1))), nil))},
	} {
		mustReject(t, x.what, design(good, x.p), api.ErrKind, procPos(1))
		mustReject(t, x.what+" first", design(x.p, good, x.p), api.ErrKind, procPos(0))
	}
	mustAccept(t, "P13.2", "all in a Clocked", driven(good, proc(flat.Clocked, indexed(flat.Later, mem, ref(in), zero(width)), assert(ref(in)))))
	mustAccept(t, "P13.2", "an Index in a Comb", driven(proc(flat.Comb, whole(flat.Set, y, zero(width)), indexed(flat.Set, y, ref(in), zero(1)))))
}

// TestP13_2Drivers: item 2.
func TestP13_2Drivers(t *testing.T) {
	wire, comb := proc(flat.Wire, whole(flat.Set, y, ref(in))), proc(flat.Comb, whole(flat.Set, y, ref(in)))
	later, set := proc(flat.Clocked, whole(flat.Later, y, ref(in))), proc(flat.Clocked, whole(flat.Set, y, ref(in)))
	for i, a := range []flat.Proc{wire, comb, later, set} {
		for j, b := range []flat.Proc{wire, comb, later, set} {
			mustReject(t, show([]int{i, j}), driven(a, proc(flat.Clocked), b, b), api.ErrDrive, procPos(2))
		}
	}
	low, high := part(flat.Set, y, 0, 2, zero(2)), part(flat.Set, y, 2, 2, zero(2))
	middle := part(flat.Set, y, 1, 2, zero(2))
	mustAccept(t, "P13.2", "parts of a wire", driven(proc(flat.Wire, high), proc(flat.Wire, low)))
	mustAccept(t, "P13.2", "one process", driven(proc(flat.Wire, low, high, middle, low)))
	mustReject(t, "parts that overlap", driven(proc(flat.Wire, low), proc(flat.Wire, high), proc(flat.Wire, middle)), api.ErrDrive, procPos(2))
	for _, kind := range []int{flat.Comb, flat.Clocked} {
		mustReject(t, "parts of two kinds", driven(proc(flat.Wire, low), proc(kind, high)), api.ErrDrive, procPos(1))
		mustReject(t, "parts of two kinds", driven(proc(kind, low), proc(flat.Wire, high)), api.ErrDrive, procPos(1))
		mustReject(t, "parts of a kind", driven(proc(kind, low), proc(kind, high)), api.ErrDrive, procPos(1))
		mustReject(t, "bits with an index", driven(proc(kind, low), proc(kind, indexed(flat.Set, y, ref(in), zero(1)))), api.ErrDrive, procPos(1))
	}
	for _, kind := range []int{flat.Wire, flat.Comb, flat.Clocked} {
		mustReject(t, "an input", driven(wire, proc(kind, part(flat.Set, in, 1, 1, zero(1)))), api.ErrDrive, procPos(1))
		mustReject(t, "an input in an If", driven(wire, proc(kind, branch(ref(y), nil, list(whole(flat.Set, in, ref(y)))))), api.ErrDrive, procPos(1))
	}
	write := proc(flat.Clocked, indexed(flat.Later, mem, ref(in), ref(in)))
	mustAccept(t, "P13.2", "a memory", driven(wire, write))
	mustReject(t, "a memory in two processes", driven(wire, write, write), api.ErrDrive, procPos(2))
	mustReject(t, "an input later", driven(wire, proc(flat.Clocked, whole(flat.Later, in, ref(y)))), api.ErrDrive, procPos(1))
}

// TestP13_2Races: item 3.
func TestP13_2Races(t *testing.T) {
	wire := proc(flat.Wire, whole(flat.Set, y, ref(in)))
	set, later := whole(flat.Set, z, ref(in)), whole(flat.Later, z, ref(in))
	for _, body := range [][]flat.Stmt{
		{set, later}, {later, set}, {branch(ref(in), list(set), list(later))},
		{part(flat.Set, z, 0, 1, zero(1)), part(flat.Later, z, 1, 1, zero(1))},
		{part(flat.Set, z, 0, 1, zero(1)), indexed(flat.Later, z, ref(in), zero(1))},
	} {
		mustReject(t, show(body), design(wire, proc(flat.Clocked, body...)), api.ErrRace, procPos(1))
	}
	temp := proc(flat.Clocked, set, whole(flat.Set, z, ref(z)), assert(ref(z)))
	mustAccept(t, "P13.2", "an own Temp", design(wire, temp))
	for _, reader := range []flat.Proc{
		proc(flat.Wire, whole(flat.Set, y, ref(z))), proc(flat.Comb, whole(flat.Set, y, slice(z, 1, 1))), proc(flat.Clocked, whole(flat.Later, y, ref(z))),
		proc(flat.Clocked, whole(flat.Set, y, ref(z))), proc(flat.Clocked, assert(ref(z))), proc(flat.Clocked, branch(ref(z), nil, nil)),
		proc(flat.Clocked, indexed(flat.Later, y, ref(z), zero(1))),
	} {
		mustReject(t, "a Temp of the next process", design(reader, temp), api.ErrRace, procPos(0))
		mustReject(t, "a Temp of the previous process", design(temp, reader), api.ErrRace, procPos(1))
	}
	reg := proc(flat.Clocked, later)
	mustAccept(t, "P13.2", "a Reg of another process", design(reg, proc(flat.Clocked, whole(flat.Later, y, ref(z)))))
	mustAccept(t, "P13.2", "a Reg in a Wire", design(reg, proc(flat.Wire, whole(flat.Set, y, ref(z)))))
}

// TestP13_2MissingDrivers: item 4.
func TestP13_2MissingDrivers(t *testing.T) {
	wire := proc(flat.Wire, whole(flat.Set, y, ref(in)))
	mustReject(t, "two signals without processes", design(), api.ErrDrive, sigPos(y))
	mustReject(t, "a signal without processes", design(wire), api.ErrDrive, sigPos(z))
	mustReject(t, "a signal that is only read", design(proc(flat.Wire, whole(flat.Set, y, ref(z)))), api.ErrDrive, sigPos(z))
	for bit := range width {
		var procs []flat.Proc
		for i := range width {
			if i != bit {
				procs = append(procs, proc(flat.Wire, part(flat.Set, y, i, 1, zero(1))))
			}
		}
		mustReject(t, "a missing bit", driven(procs...), api.ErrDrive, sigPos(y))
		mustAccept(t, "P13.2", "all bits", driven(append(procs, proc(flat.Wire, part(flat.Set, y, bit, 1, zero(1))))...))
	}
	for _, kind := range []int{flat.Set, flat.Later} {
		mustAccept(t, "P13.2", "a bit of a register", driven(proc(flat.Clocked, part(kind, y, 1, 1, zero(1)))))
		mustAccept(t, "P13.2", "a bit of a register with an index", driven(proc(flat.Clocked, indexed(kind, y, ref(in), zero(1)))))
	}
}

// TestP13_2Latches: item 5.
func TestP13_2Latches(t *testing.T) {
	all, low, high := whole(flat.Set, y, ref(in)), part(flat.Set, y, 0, 2, zero(2)), part(flat.Set, y, 2, 2, zero(2))
	bit := indexed(flat.Set, y, slice(in, 0, 2), zero(1))
	own, index := whole(flat.Set, y, ref(y)), indexed(flat.Set, y, slice(y, 0, 1), zero(1))
	other, ownPart := whole(flat.Set, z, ref(y)), part(flat.Set, y, 0, 1, slice(y, 1, 1))
	c := slice(in, 0, 1)
	for i, x := range []struct {
		isLatch bool
		body    []flat.Stmt
	}{
		{false, list(all)}, {false, list(low, high)}, {false, list(high, all)}, {false, list(all, bit)}, {false, list(bit, all)},
		{false, list(all, own)}, {false, list(low, high, own)}, {false, list(all, ownPart)}, {false, list(all, index)},
		{true, list(low)}, {true, list(high)}, {true, list(bit)}, {true, list(bit, low)}, {true, list(own)}, {true, list(own, all)},
		{true, list(low, own, all)}, {true, list(index, all)}, {true, list(low, ownPart, high)}, {true, list(ownPart, all)},
		{true, list(low, part(flat.Set, y, 2, 2, slice(y, 0, 2)))},
		{true, list(branch(c, list(all), nil))}, {true, list(branch(c, nil, list(all)))}, {true, list(branch(c, nil, nil), low)},
		{false, list(branch(c, list(all), list(all)))}, {false, list(branch(c, list(low), nil), all)}, {false, list(all, branch(c, list(low), nil))},
		{true, list(branch(c, list(low), list(high)))}, {false, list(low, branch(c, list(high), list(all)))},
		{true, list(branch(c, list(low, high), list(low)))}, {true, list(branch(ref(y), nil, nil), all)}, {false, list(all, branch(ref(y), nil, nil))},
		{true, list(branch(c, list(all), nil), own, all)}, {false, list(branch(c, list(all, own), list(all)))},
		{true, list(branch(c, list(all), list(own)))}, {true, list(branch(c, list(all), list(own)), all)},
		{false, list(branch(c, list(branch(c, list(all), list(low, high))), list(all)), own)},
		{true, list(branch(c, list(branch(c, list(all), list(low))), list(all)))},
		{true, list(branch(c, list(branch(c, list(all), list(low))), list(all)), own, all)},
		{true, list(branch(slice(y, 3, 1), list(all), list(all)))},
		{false, list(branch(c, list(low), list(low)), branch(c, list(high), list(high)), own)},
	} {
		d := driven(proc(flat.Clocked), proc(flat.Comb, x.body...))
		if x.isLatch {
			mustReject(t, show(i), d, api.ErrLatch, procPos(1))
		} else {
			mustAccept(t, "P13.2", show(i), d)
		}
		mustAccept(t, "P13.2", show(i)+" in a Clocked", driven(proc(flat.Clocked, x.body...)))
	}
	mustAccept(t, "P13.2", "two signals", design(proc(flat.Comb, all, other)))
	mustReject(t, "a signal that is read before it is written", design(proc(flat.Comb, other, all)), api.ErrLatch, procPos(0))
	mustReject(t, "two signals, one of them", design(proc(flat.Comb, all, branch(c, list(other), nil))), api.ErrLatch, procPos(0))
	mustAccept(t, "P13.2", "no statements", driven(proc(flat.Comb, all), proc(flat.Comb)))
}

// TestP13_2Loops: item 6.
func TestP13_2Loops(t *testing.T) {
	from := func(kind, to, lo int, e typed.Expr) flat.Proc { return proc(kind, part(flat.Set, to, lo, e.Width, e)) }
	mustReject(t, "a Wire", driven(proc(flat.Clocked), from(flat.Wire, y, 0, ref(y))), api.ErrLoop, procPos(1))
	mustReject(t, "a bit of a Wire", driven(from(flat.Wire, y, 1, typed.Wide(slice(y, 3, 1), 3, false)), from(flat.Wire, y, 0, zero(1))), api.ErrLoop, procPos(0))
	chain := []flat.Proc{from(flat.Wire, y, 0, slice(in, 0, 1)), from(flat.Wire, y, 1, slice(y, 0, 1)), from(flat.Wire, y, 2, slice(y, 1, 1)), from(flat.Wire, y, 3, slice(y, 2, 1))}
	mustAccept(t, "P13.2", "bits of one signal", driven(chain...))
	chain[0] = from(flat.Wire, y, 0, slice(y, 3, 1))
	mustReject(t, "a circle of bits", driven(chain...), api.ErrLoop, procPos(0))
	for _, a := range []int{flat.Wire, flat.Comb} {
		mustAccept(t, "P13.2", "a sequence", design(from(a, y, 0, ref(z)), from(flat.Wire, z, 0, ref(in))))
		for _, b := range []int{flat.Wire, flat.Comb} {
			mustReject(t, "two processes", design(from(a, y, 0, ref(z)), from(b, z, 0, ref(y))), api.ErrLoop, procPos(0))
		}
	}
	two := []flat.Proc{from(flat.Wire, z, 0, slice(y, 0, 1)), from(flat.Wire, z, 1, slice(in, 0, 3)), from(flat.Comb, y, 0, typed.Wide(slice(z, 1, 1), width, false))}
	mustAccept(t, "P13.2", "different bits", design(two...))
	mustAccept(t, "P13.2", "own writes of a Comb", driven(proc(flat.Comb, whole(flat.Set, y, ref(in)), whole(flat.Set, y, ref(y)))))
	mustReject(t, "own writes of a Wire", driven(proc(flat.Wire, whole(flat.Set, y, ref(in)), whole(flat.Set, y, ref(y)))), api.ErrLoop, procPos(0))
	mustReject(t, "own writes and others of a Comb", design(proc(flat.Comb, whole(flat.Set, y, ref(z)), whole(flat.Set, y, ref(y))), from(flat.Comb, z, 0, ref(y))), api.ErrLoop, procPos(0))
	mustAccept(t, "P13.2", "through a register", design(from(flat.Wire, y, 0, ref(z)), proc(flat.Clocked, whole(flat.Later, z, ref(y)))))
	mustAccept(t, "P13.2", "through a memory", driven(from(flat.Wire, y, 0, word(ref(in))), proc(flat.Clocked, indexed(flat.Later, mem, ref(in), ref(y)))))
	// The first two processes depend on a loop, the last one not.
	d := design(from(flat.Wire, 4, 0, ref(5)), from(flat.Wire, 5, 0, ref(y)), from(flat.Wire, z, 0, ref(y)), from(flat.Wire, y, 0, ref(z)), from(flat.Wire, 6, 0, ref(in)))
	for _, name := range []string{"a", "b", "c"} {
		d.Sigs = append(d.Sigs, typed.Sig{Name: name, Width: width})
	}
	mustReject(t, "processes that depend on a loop", placed(d), api.ErrLoop, procPos(2))
	inIndex := proc(flat.Comb, whole(flat.Set, y, zero(width)), indexed(flat.Set, y, ref(z), zero(1)))
	mustReject(t, "an index", design(from(flat.Wire, z, 0, ref(y)), inIndex), api.ErrLoop, procPos(0))
}

// TestP13_2Starts: item 7.
func TestP13_2Starts(t *testing.T) {
	d := design(proc(flat.Clocked, whole(flat.Later, y, ref(in))), proc(flat.Clocked, part(flat.Set, z, 0, 1, zero(1))))
	d.Sigs = append(d.Sigs, typed.Sig{Name: "w", Width: 1})
	d.Procs = append(d.Procs, proc(flat.Wire, part(flat.Set, 4, 0, 1, zero(1))))
	d = placed(d)
	good := []flat.Start{{Sig: z, Val: vec(width, 1)}, {Sig: y, Val: vec(width, 2)}}
	for _, x := range []struct {
		starts []flat.Start
		at     api.Pos
	}{
		{[]flat.Start{{Sig: -1, Val: vec(width, 0)}, good[0]}, api.Pos{}},
		{[]flat.Start{{Sig: 5, Val: vec(width, 0)}, {Sig: in, Val: vec(width, 0)}}, api.Pos{}},
		{[]flat.Start{{Sig: in, Val: vec(width, 0)}, {Sig: 5, Val: vec(width, 0)}}, sigPos(in)},
		{[]flat.Start{{Sig: mem, Val: vec(width, 0)}}, sigPos(mem)},
		{[]flat.Start{{Sig: 4, Val: vec(1, 0)}}, sigPos(4)},
		{[]flat.Start{good[0], good[1], good[0]}, sigPos(z)},
		{[]flat.Start{good[1], good[0], {Sig: y, Val: vec(width, 2)}}, sigPos(y)},
		{[]flat.Start{{Sig: y, Val: vec(width-1, 0)}}, sigPos(y)},
		{[]flat.Start{good[0], {Sig: y, Val: vec(width+1, 0)}}, sigPos(y)},
		{[]flat.Start{{Sig: z}}, sigPos(z)},
	} {
		d.Starts = x.starts
		mustReject(t, show(x.starts), d, api.ErrKind, x.at)
	}
	d.Starts = good
	mustAccept(t, "P13.2", "initial values", d)
}

// TestP13_2TheFirstErrorIsReturned has one error of each item. The later ones
// remain when the first one is removed.
func TestP13_2TheFirstErrorIsReturned(t *testing.T) {
	assign := func(kind, to int, e typed.Expr) flat.Proc { return proc(kind, whole(flat.Set, to, e)) }
	d := design(
		assign(flat.Wire, 9, ref(9)),                                                        // a loop
		proc(flat.Comb, part(flat.Set, 8, 0, 1, zero(1))),                                   // a latch
		proc(flat.Clocked, whole(flat.Set, 6, ref(in))), proc(flat.Clocked, assert(ref(6))), // a race
		proc(flat.Clocked, whole(flat.Later, z, ref(in))), assign(flat.Wire, z, ref(in)), // two drivers
		assign(flat.Wire, y, ref(in)), proc(flat.Comb, assert(ref(y))), proc(flat.Wire, assert(ref(in))), // wrong kinds
	)
	for range 6 {
		d.Sigs = append(d.Sigs, typed.Sig{Width: width}) // 4, 5 and 7 have no driver
	}
	d.Starts = []flat.Start{{Sig: in, Val: vec(width, 0)}}
	for _, x := range []struct {
		err    api.Errno
		at     api.Pos
		remove func()
	}{
		{api.ErrKind, procPos(7), func() { d.Procs[7].Body = nil }},
		{api.ErrKind, procPos(8), func() { d.Procs[8].Body = nil }},
		{api.ErrDrive, procPos(5), func() { d.Procs[5].Body = nil }},
		{api.ErrRace, procPos(3), func() { d.Procs[3].Body = nil }},
		{api.ErrDrive, sigPos(4), func() { d.Sigs[4].Words = 1 }},
		{api.ErrDrive, sigPos(5), func() { d.Sigs[5].Words = 1 }},
		{api.ErrDrive, sigPos(7), func() { d.Sigs[7].Words = 1 }},
		{api.ErrLatch, procPos(1), func() { d.Procs[1] = assign(flat.Comb, 8, ref(in)) }},
		{api.ErrLoop, procPos(0), func() { d.Procs[0] = assign(flat.Wire, 9, ref(in)) }},
		{api.ErrKind, sigPos(in), func() { d.Starts = nil }},
	} {
		d = placed(d)
		mustReject(t, show(x.at), d, x.err, x.at)
		x.remove()
	}
	mustAccept(t, "P13.2", "no error", d)
}
