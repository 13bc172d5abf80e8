package sat

// order is a heap of the variables that may be open, the most active one on
// top. Activities are integers, so that they are the same on all machines.
type order struct {
	heap     []int
	place    []int // by variable: where it is in the heap, or outside
	activity []int
	step     int // what is added to the activity of a variable
}

const (
	outside     = -1
	firstStep   = 1 << 20
	ageing      = 20 // one part of so many is added to the step by each conflict
	mostActive  = 1 << 60
	scalingBits = 30
)

func newOrder(vars int) order {
	o := order{heap: make([]int, vars), place: make([]int, vars), activity: make([]int, vars), step: firstStep}
	for v := range vars {
		o.heap[v], o.place[v] = v, v
	}
	return o
}

// age makes what follows count more than what was before.
func (o *order) age() { o.step += o.step / ageing }

// bump increases the activity of a variable.
func (o *order) bump(v int) {
	o.activity[v] += o.step
	if o.activity[v] > mostActive {
		o.scale()
	}
	if o.place[v] != outside {
		o.rise(o.place[v])
	}
}

// scale makes all activities smaller, which changes no order between them but
// for making them equal.
func (o *order) scale() {
	for v := range o.activity {
		o.activity[v] >>= scalingBits
	}
	o.step >>= scalingBits
}

// push adds a variable if it is not there.
func (o *order) push(v int) {
	if o.place[v] != outside {
		return
	}
	o.heap = append(o.heap, v)
	o.rise(len(o.heap) - 1)
}

// pop removes the most active variable and returns it, if there is any.
func (o *order) pop() (int, bool) {
	if len(o.heap) == 0 {
		return 0, false
	}
	top, last := o.heap[0], len(o.heap)-1
	moved := o.heap[last]
	o.heap = o.heap[:last]
	if last > 0 {
		o.heap[0] = moved
		o.sink(0)
	}
	o.place[top] = outside
	return top, true
}

// rise moves the variable at place i up to where it belongs.
func (o *order) rise(i int) {
	v := o.heap[i]
	for i > 0 {
		above := (i - 1) / 2
		if o.activity[o.heap[above]] >= o.activity[v] {
			break
		}
		o.put(i, o.heap[above])
		i = above
	}
	o.put(i, v)
}

// sink moves the variable at place i down to where it belongs.
func (o *order) sink(i int) {
	v := o.heap[i]
	for {
		below := 2*i + 1
		if below >= len(o.heap) {
			break
		}
		if below+1 < len(o.heap) && o.activity[o.heap[below+1]] > o.activity[o.heap[below]] {
			below++
		}
		if o.activity[v] >= o.activity[o.heap[below]] {
			break
		}
		o.put(i, o.heap[below])
		i = below
	}
	o.put(i, v)
}

func (o *order) put(i, v int) { o.heap[i], o.place[v] = v, i }
