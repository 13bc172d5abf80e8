package flat

import (
	"slices"

	"sluicegate/api"
)

// order returns the processes that are not clocked, each one after those on
// which it depends. It fails at the first one that depends on itself.
func (a *analyzer) order() []int {
	if a.err != api.OK {
		return nil
	}
	next, missing := a.dependents()
	var order, ready []int
	for i, p := range a.Procs {
		if p.Kind != Clocked && missing[i] == 0 {
			ready = append(ready, i)
		}
	}
	for len(ready) > 0 {
		i := ready[0]
		ready = ready[1:]
		order = append(order, i)
		for _, j := range next[i] {
			missing[j]--
			if missing[j] == 0 {
				at, _ := slices.BinarySearch(ready, j)
				ready = slices.Insert(ready, at, j)
			}
		}
	}
	a.firstProc(api.ErrLoop, func(i int) bool { return missing[i] > 0 && reaches(next, i, i) })
	return order
}

// dependents returns, for each process, those that read what it writes, and for
// each process the number of those whose writes it reads. A process is listed
// once for each signal.
func (a *analyzer) dependents() (next [][]int, missing []int) {
	writers := make([][]int, len(a.Sigs))
	for i, x := range a.work {
		if a.Procs[i].Kind == Clocked {
			continue
		}
		for sig := range x.writes {
			writers[sig] = append(writers[sig], i)
		}
	}
	next, missing = make([][]int, len(a.work)), make([]int, len(a.work))
	for i, x := range a.work {
		if a.Procs[i].Kind == Clocked {
			continue
		}
		for sig, bits := range x.reads {
			for _, w := range writers[sig] {
				isOwn := w == i && a.Procs[i].Kind == Comb
				if !isOwn && bits.overlaps(a.work[w].writes[sig]) {
					next[w] = append(next[w], i)
					missing[i]++
				}
			}
		}
	}
	return next, missing
}

// reaches reports whether one or more steps lead from a process to another one.
func reaches(next [][]int, from, to int) bool {
	seen := make([]bool, len(next))
	work := []int{from}
	for len(work) > 0 {
		i := work[len(work)-1]
		work = work[:len(work)-1]
		for _, j := range next[i] {
			if j == to {
				return true
			}
			if !seen[j] {
				seen[j] = true
				work = append(work, j)
			}
		}
	}
	return false
}
