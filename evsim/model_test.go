package evsim_test

import (
	"maps"
	"math/rand/v2"
	"slices"
	"testing"

	"sluicegate/api"
	"sluicegate/bv"
	"sluicegate/evsim"
	"sluicegate/exec"
	"sluicegate/flat"
	"sluicegate/sample"
)

// model is a simulator that looks for what to do in the whole design each time.
type model struct {
	flat.Design
	state  *exec.State
	active map[int]bool
	writes map[int][]exec.Write
	checks map[int][]exec.Check
	runs   int
}

func newModel(d flat.Design, start *exec.State) *model {
	m := &model{Design: d, state: start.Clone(), active: map[int]bool{}}
	if start == nil {
		m.state = exec.New(d)
		for _, x := range d.Starts {
			m.state.SetSig(x.Sig, x.Val)
		}
	}
	m.wakeAll(func(kind int) bool { return kind != flat.Clocked })
	return m
}

func (m *model) wakeAll(isMeant func(kind int) bool) {
	for i, p := range m.Procs {
		if isMeant(p.Kind) {
			m.active[i] = true
		}
	}
}

// wake makes active what reads signals.
func (m *model) wake(except int, sigs []int) {
	for i, p := range m.Procs {
		for _, use := range flat.Reads(m.Design, p) {
			if slices.Contains(sigs, use.Sig) && p.Kind != flat.Clocked && i != except {
				m.active[i] = true
			}
		}
	}
}

func (m *model) set(sig int, v bv.Vec) api.Errno {
	if !slices.Contains(m.Inputs, sig) {
		return api.ErrRange
	}
	if v.Width() != m.Sigs[sig].Width {
		return api.ErrWidth
	}
	if m.state.Sig(sig) != v {
		m.state.SetSig(sig, v)
		m.wake(-1, []int{sig})
	}
	return api.OK
}

// next returns the active process that a list of picks begins with, or the first
// one.
func (m *model) next(picks []int) int {
	list := slices.Sorted(maps.Keys(m.active))
	if len(picks) > 0 {
		at := picks[0] % len(list)
		if at < 0 {
			at += len(list)
		}
		return list[at]
	}
	info, _, _ := flat.Analyze(m.Design)
	for _, i := range list {
		if m.Procs[i].Kind == flat.Clocked {
			return i
		}
	}
	return info.Order[slices.IndexFunc(info.Order, func(i int) bool { return m.active[i] })]
}

func (m *model) settle(picks []int) int {
	used := 0
	for len(m.active) > 0 {
		i := m.next(picks[used:])
		used = min(used+1, len(picks))
		delete(m.active, i)
		w, c, changed := exec.Run(m.state, m.Procs[i])
		if m.Procs[i].Kind == flat.Clocked {
			m.writes[i], m.checks[i] = w, c
		}
		m.runs++
		m.wake(i, changed)
	}
	return used
}

func (m *model) step(picks []int) ([]exec.Check, int) {
	used := m.settle(picks)
	m.writes, m.checks = map[int][]exec.Write{}, map[int][]exec.Check{}
	m.wakeAll(func(kind int) bool { return kind == flat.Clocked })
	used += m.settle(picks[used:])
	var w []exec.Write
	var c []exec.Check
	for i := range m.Procs {
		w, c = append(w, m.writes[i]...), append(c, m.checks[i]...)
	}
	m.wake(-1, exec.Apply(m.state, w...))
	used += m.settle(picks[used:])
	return c, used
}

// mustAgree fails unless a simulator is where the model is.
func mustAgree(t *testing.T, what string, m *model, s *evsim.Sim) {
	t.Helper()
	if show(s.Active()) != show(slices.Sorted(maps.Keys(m.active))) || s.Runs() != m.runs || !s.State().Same(m.state) {
		t.Fatalf("P16.1, P16.2, P16.4: after %s: active %v, not %v; runs %d, not %d;\n%s, not\n%s\n%s", what, s.Active(), m.active, s.Runs(), m.runs, contents(m.Design, s.State()), contents(m.Design, m.state), flat.Text(m.Design))
	}
}

// mustActAlike does something with the simulator and the model.
func mustActAlike(t *testing.T, pick sample.Choice, m *model, s *evsim.Sim) {
	t.Helper()
	picks := somePicks(pick)
	switch pick(4) {
	case 0:
		sig := pick(len(m.Sigs)+2) - 1
		v := pick.Vec(pick.Width())
		if sig >= 0 && sig < len(m.Sigs) && pick(4) > 0 {
			v = pick.Vec(m.Sigs[sig].Width)
		}
		if err, want := s.Set(sig, v), m.set(sig, v); err != want {
			t.Fatalf("P16.1: error %d, not %d", err, want)
		}
		mustAgree(t, "Set", m, s)
	case 1:
		if used, want := s.Settle(picks...), m.settle(picks); used != want {
			t.Fatalf("P16.2: %d picks used, not %d, of %v", used, want, picks)
		}
		mustAgree(t, "Settle", m, s)
	case 2:
		c, used := s.Step(picks...)
		want, wantUsed := m.step(picks)
		if show(c) != show(want) || used != wantUsed {
			t.Fatalf("P16.4: %v, %d picks used, not %v, %d, of %v", c, used, want, wantUsed, picks)
		}
		mustAgree(t, "Step", m, s)
	default:
		ins := pick.Ins(m.Design)
		c, err := s.Cycle(ins, picks...)
		for i, v := range ins {
			m.set(m.Inputs[i], v)
		}
		if want, _ := m.step(picks); show(c) != show(want) || err != api.OK {
			t.Fatalf("P16.4: %v, error %d, not %v", c, err, want)
		}
		mustAgree(t, "Cycle", m, s)
	}
}

// TestP16_2AnyDesign compares everything with the model.
func TestP16_2AnyDesign(t *testing.T) {
	pick := sample.Choice(rand.New(rand.NewPCG(16, 1)).IntN)
	for range 1000 {
		d := pick.Design()
		text := show(d)
		var start *exec.State
		if pick(3) > 0 {
			start = pick.State(d)
		}
		s, m := started(t, d, start), newModel(d, start)
		mustAgree(t, "New", m, s)
		for range 8 {
			mustActAlike(t, pick, m, s)
		}
		if show(d) != text {
			t.Fatal("P16.1: an argument has changed")
		}
	}
}
