package tool_test

import (
	"slices"
	"strings"
	"testing"

	"sluicegate/api"
	"sluicegate/bv"
	"sluicegate/cyc"
	"sluicegate/evsim"
	"sluicegate/exec"
	"sluicegate/flat"
	"sluicegate/net"
	"sluicegate/sample"
	"sluicegate/synth"
	"sluicegate/tool"
	"sluicegate/typed"
)

// mustDesign returns the design of a text.
func mustDesign(t *testing.T, text string) flat.Design {
	t.Helper()
	d, fault := tool.Design(one(text), "t.v", "top")
	if fault != "" {
		t.Fatalf("P27.1: %s: %s", fault, text)
	}
	return d
}

// sides are the simulator and the netlist of a machine, in the same state as the model.
type sides struct {
	*machine
	t      *testing.T
	d      flat.Design
	sim    *evsim.Sim
	net    synth.Result
	state  cyc.State
	values []int
}

// vec is a value of any variable.
func (m *machine) vec(n int) bv.Vec {
	v, _ := bv.New(m.width, uint64(n))
	return v
}

// sig returns the number of the signal or memory that variable i belongs to, and that
// of its word.
func (m *sides) sig(i int) (sig, word int) {
	name, _, isWord := strings.Cut(m.vars[i].name, "[")
	if isWord {
		word = i - m.scope.first
	}
	return slices.IndexFunc(m.d.Sigs, func(x typed.Sig) bool { return x.Name == name }), word
}

// place returns where the netlist has the value of a state variable.
func (m *sides) place(i int) *bv.Vec {
	sig, word := m.sig(i)
	if at := slices.Index(m.net.Mems, sig); at >= 0 {
		return &m.state.Words[at][word]
	}
	return &m.state.Regs[slices.Index(m.net.Regs, sig)]
}

// inAnyState returns both sides of a machine.
func inAnyState(t *testing.T, m *machine) *sides {
	t.Helper()
	x := &sides{machine: m, t: t, d: mustDesign(t, m.text), values: make([]int, len(m.vars))}
	r, pos, err := synth.Synth(x.d)
	if err != api.OK {
		t.Fatalf("P18.1: error %d at %v", err, pos)
	}
	x.net, x.state = r, cyc.Zero(r.Net)
	state := exec.New(x.d)
	for i, y := range m.vars {
		if y.isState {
			x.values[i] = m.Choice(1 << m.width)
			*x.place(i) = m.vec(x.values[i])
			sig, word := x.sig(i)
			state.SetSig(sig, m.vec(x.values[i]))
			state.SetWord(sig, word, m.vec(x.values[i]))
		}
	}
	x.sim, _, _ = evsim.New(x.d, state)
	return x
}

// compare fails unless variable i has that value on both sides.
func (m *sides) compare(i int, netlist bv.Vec, want int) {
	m.t.Helper()
	sig, word := m.sig(i)
	simulated := m.sim.State().Sig(sig)
	if m.d.Sigs[sig].Words > 0 {
		simulated = m.sim.State().Word(sig, word)
	}
	if text := m.vec(want).Text(); simulated.Text() != text || netlist.Text() != text {
		m.t.Fatalf("P2: %s: %s on the simulator, %s in the netlist, not %s:\n%s", m.vars[i].name, simulated.Text(), netlist.Text(), text, m.text)
	}
}

// cycle performs a cycle with any inputs.
func (m *sides) cycle() {
	m.t.Helper()
	var ins []bv.Vec
	for i, x := range m.vars {
		if x.isInput {
			m.values[i] = m.Choice(1 << m.width)
			ins = append(ins, m.vec(m.values[i]))
			sig, _ := m.sig(i)
			m.sim.Set(sig, m.vec(m.values[i]))
		}
	}
	settled, next, faults := m.machine.cycle(m.values)
	m.sim.Settle(anyPicks(m.Choice)...)
	outs, _ := cyc.Outs(m.net.Net, m.state, ins...)
	for i, x := range m.vars {
		if at := slices.IndexFunc(m.net.Net.Outs, func(o net.Out) bool { return o.Name == x.name }); at >= 0 {
			m.compare(i, outs[at], settled[i])
		}
	}
	checks, err := m.sim.Cycle(ins, anyPicks(m.Choice)...)
	after, seen, fault := cyc.Step(m.net.Net, m.state, ins...)
	if err != api.OK || fault != api.OK {
		m.t.Fatalf("P2: errors %d and %d", err, fault)
	}
	m.values, m.state = next, after
	for i, x := range m.vars {
		if x.isState {
			m.compare(i, *m.place(i), next[i])
		}
	}
	simulated, netlist := m.failed(checks), m.failed(seenAsChecks(seen))
	if !slices.Equal(simulated, faults) || !slices.Equal(netlist, faults) {
		m.t.Fatalf("P2: %s fail on the simulator, %s in the netlist, not %s:\n%s", simulated, netlist, faults, m.text)
	}
}

func seenAsChecks(list []cyc.Seen) []exec.Check {
	var checks []exec.Check
	for _, x := range list {
		checks = append(checks, exec.Check(x))
	}
	return checks
}

// failed returns the names of the assertions that do not hold.
func (m *sides) failed(list []exec.Check) []string {
	var names []string
	for _, c := range list {
		if !c.Holds {
			names = append(names, m.d.Asserts[c.Assert])
		}
	}
	return names
}

// TestP2OneDesign: from any state, with any inputs and picks, all variables and
// assertions are those of the model.
func TestP2OneDesign(t *testing.T) {
	pick := chooser(27, 1)
	for range 600 {
		m := inAnyState(t, anyMachine(pick))
		for range 5 {
			m.cycle()
		}
	}
}

// mustBeOne fails unless a design and its netlist are the same in a few cycles from any
// state.
func mustBeOne(t *testing.T, pick sample.Choice, d flat.Design) {
	t.Helper()
	r, _, err := synth.Synth(d)
	if err != api.OK {
		return
	}
	from := pick.State(d)
	sim, _, _ := evsim.New(d, from)
	state := taken(r, from)
	for range 4 {
		ins := pick.Ins(d)
		checks, _ := sim.Cycle(ins, anyPicks(pick)...)
		next, seen, err := cyc.Step(r.Net, state, ins...)
		if show(checks) != show(seen) || show(next) != show(taken(r, sim.State())) || err != api.OK {
			t.Fatalf("P2: %s and %s in the netlist, not %s and %s, error %d:\n%s", show(next), show(seen), show(taken(r, sim.State())), show(checks), err, flat.Text(d))
		}
		outs, _ := cyc.Outs(r.Net, next, ins...)
		for i, x := range r.Net.Outs {
			sig := slices.IndexFunc(d.Sigs, func(y typed.Sig) bool { return y.Name == x.Name })
			if got := sim.State().Sig(sig); got.Text() != outs[i].Text() {
				t.Fatalf("P2: %s is %s, and %s in the netlist:\n%s", x.Name, got.Text(), outs[i].Text(), flat.Text(d))
			}
		}
		state = next
	}
}

// taken returns the state of a netlist that a state of its design is.
func taken(r synth.Result, s *exec.State) cyc.State {
	state := cyc.Zero(r.Net)
	for i, sig := range r.Regs {
		state.Regs[i] = s.Sig(sig)
	}
	for i, sig := range r.Mems {
		for at := range state.Words[i] {
			state.Words[i][at] = s.Word(sig, at)
		}
	}
	return state
}
