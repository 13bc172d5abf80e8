package bv

import (
	"slices"

	"sluicegate/api"
)

// Slice returns width bits of a from bit lo on.
func Slice(a Vec, lo, width int) (Vec, api.Errno) {
	if !contains(a, lo, width) {
		return Vec{}, api.ErrRange
	}
	return resized(shiftDown(a, lo), width), api.OK
}

// Put returns a with the bits from lo on replaced by those of b.
func Put(a Vec, lo int, b Vec) (Vec, api.Errno) {
	if !contains(a, lo, b.width) {
		return Vec{}, api.ErrRange
	}
	hole := shiftUp(resized(ones(b.width), a.width), lo)
	filling := shiftUp(resized(b, a.width), lo)
	kept := bitwise(a, hole, func(x, y uint64) uint64 { return x &^ y })
	return logic(Or, kept, filling), api.OK
}

// Cat concatenates vectors; the first one contains the most significant bits.
func Cat(list ...Vec) (Vec, api.Errno) {
	all := Vec{}
	for _, v := range slices.Backward(list) {
		if v.width == 0 || v.width > api.MaxWidth-all.width {
			return Vec{}, api.ErrWidth
		}
		above := shiftUp(resized(v, all.width+v.width), all.width)
		all = logic(Or, above, all)
	}
	if all.width == 0 {
		return Vec{}, api.ErrWidth
	}
	return all, api.OK
}

// Ext returns a with the given width; additional bits are 0 or, if signed,
// copies of the most significant bit.
func Ext(a Vec, width int, signed bool) (Vec, api.Errno) {
	if !fits(width) || a.width == 0 {
		return Vec{}, api.ErrWidth
	}
	if signed && isNegative(a) {
		return invert(resized(invert(a), width)), api.OK
	}
	return resized(a, width), api.OK
}

// contains reports whether a has width bits, at least one, from bit lo on.
func contains(a Vec, lo, width int) bool {
	return lo >= 0 && width >= 1 && width <= a.width && lo <= a.width-width
}

// resized returns a with the given width; additional bits are 0.
func resized(a Vec, width int) Vec {
	a.width = width
	return a.trimmed()
}
