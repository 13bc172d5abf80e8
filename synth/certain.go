package synth

import (
	"slices"

	"sluicegate/flat"
)

// certain returns the registers that an If certainly assigns as a whole, in
// ascending order.
func (b *builder) certain(s flat.Stmt) []int {
	first, second := b.certainOf(s.Body), b.certainOf(s.Else)
	return slices.DeleteFunc(first, func(sig int) bool {
		_, found := slices.BinarySearch(second, sig)
		return !found
	})
}

func (b *builder) certainOf(list []flat.Stmt) []int {
	var sigs []int
	for _, s := range list {
		switch {
		case s.Kind == flat.Later && b.has(s.Target.Sig) && b.isWhole(s.Target):
			sigs = append(sigs, s.Target.Sig)
		case s.Kind == flat.If:
			sigs = append(sigs, b.certain(s)...)
		}
	}
	slices.Sort(sigs)
	return slices.Compact(sigs)
}

// isWhole reports whether a target consists of all bits of a signal.
func (b *builder) isWhole(t flat.Target) bool {
	return len(t.Index) == 0 && t.Lo == 0 && t.Width == b.design.Sigs[t.Sig].Width
}
