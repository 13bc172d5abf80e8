package rup_test

import (
	"math"
	"math/rand/v2"
	"slices"
	"testing"

	"sluicegate/api"
	"sluicegate/cnf"
	"sluicegate/rup"
	"sluicegate/sat"
)

func TestP5_2Check(t *testing.T) {
	triple := [][]int{{1, 2, 3}, {-1}, {-2}}
	for _, x := range []struct {
		vars    int
		clauses [][]int
		proof   [][]int
		at      int
		want    api.Errno
	}{
		{3, square(), [][]int{{1}, {}}, 0, api.OK},
		{3, square(), [][]int{{-2}, {}}, 0, api.OK},
		{3, square(), [][]int{{}}, 0, api.ErrProof},
		{3, square(), nil, 0, api.ErrEnd},
		{3, square(), [][]int{{1}}, 1, api.ErrEnd},
		{3, square(), [][]int{{1}, {2}}, 2, api.ErrEnd},
		{3, square(), [][]int{{3}, {}}, 0, api.ErrProof},
		{3, square(), [][]int{{3, 1}, {}}, 1, api.ErrProof},
		{3, square(), [][]int{{1}, {}, {}}, 0, api.OK},
		{3, square(), [][]int{{1}, {}, {3}, {}}, 0, api.OK},
		{3, square(), [][]int{{1}, {}, {3}}, 3, api.ErrEnd},
		{3, square(), [][]int{{1}, {}, {4}, {}}, 2, api.ErrRange},
		{3, square(), [][]int{{1}, {}, {3, 0}, {5}}, 2, api.ErrRange},
		{3, square(), [][]int{{}, {4}}, 0, api.ErrProof},
		{3, square(), [][]int{{4}, {}}, 0, api.ErrRange},
		{3, square(), [][]int{{1}, {3, 4}, {3}}, 1, api.ErrRange},
		{3, square(), [][]int{{3, -4}, {}}, 0, api.ErrRange},
		{3, square(), [][]int{{1, -1, 4}, {}}, 0, api.ErrRange},
		{3, square(), [][]int{{1, 1, 1}, {}}, 0, api.OK},
		{3, square(), [][]int{{-2, 2}, {3, -1, -3}, {}}, 2, api.ErrProof},
		{3, square(), [][]int{{-2, 2}, {1}, {3, -3, 2}, {}}, 0, api.OK},
		{3, square(), [][]int{{1}, {1}, {-1}, {}}, 0, api.OK},
		{3, triple, [][]int{{}}, 0, api.ErrProof},
		{3, triple, [][]int{{3}, {}}, 1, api.ErrProof},
		{3, triple, [][]int{{3}, {3, 1}}, 2, api.ErrEnd},
		{3, triple, [][]int{{-3}}, 0, api.ErrProof},
		{3, append(triple, []int{-3}), [][]int{{}}, 0, api.OK},
		{3, nil, nil, 0, api.ErrEnd},
		{3, nil, [][]int{{}}, 0, api.ErrProof},
		{3, nil, [][]int{{1, -1}}, 1, api.ErrEnd},
		{3, nil, [][]int{{1, -1}, {}}, 1, api.ErrProof},
		{3, [][]int{nil}, nil, 0, api.ErrEnd},
		{3, [][]int{nil}, [][]int{{1}}, 1, api.ErrEnd},
		{3, [][]int{nil}, [][]int{{1}, {-1}, {2, 3}, {}}, 0, api.OK},
		{3, [][]int{nil}, [][]int{{1}, {-4}}, 1, api.ErrRange},
		{0, nil, nil, 0, api.ErrEnd},
		{0, [][]int{nil}, [][]int{{}}, 0, api.OK},
		{0, [][]int{nil}, [][]int{{}, {1}}, 1, api.ErrRange},
		{1, [][]int{{1}, {-1}}, [][]int{nil}, 0, api.OK},
	} {
		at, err := rup.Check(formula(t, x.vars, x.clauses...), x.proof...)
		if at != x.at || err != x.want {
			t.Errorf("P5.2: %v: Check(%v) = %d, error %d; want %d, error %d", x.clauses, x.proof, at, err, x.at, x.want)
		}
	}
}

func TestP5_2CheckNeedsLiterals(t *testing.T) {
	for _, vars := range []int{1, 5, api.MaxVars} {
		for _, none := range foreign(vars) {
			for _, proof := range [][][]int{{{none}, {}}, {{-1, none, 1}}, {{1, none}, {none}}} {
				for _, c := range []*cnf.Cnf{cnf.New(vars), formula(t, vars, nil)} {
					if at, err := rup.Check(c, proof...); at != 0 || err != api.ErrRange {
						t.Errorf("P5.2: %d variables: Check(%v) = %d, error %d", vars, proof, at, err)
					}
				}
			}
		}
	}
}

// mustAgree fails unless Check returns what the chapter says, and is right.
func mustAgree(t *testing.T, c *cnf.Cnf, proof [][]int) api.Errno {
	t.Helper()
	at, err := rup.Check(c, proof...)
	if wantAt, want := expectedCheck(c, proof); at != wantAt || err != want {
		t.Errorf("P5.2: %q: Check(%v) = %d, error %d; want %d, error %d", c.Text(), proof, at, err, wantAt, want)
	}
	if err == api.OK && hasModel(c) {
		t.Errorf("P5.2: %q has a model, but %v is accepted", c.Text(), proof)
	}
	return err
}

// someProof returns clauses that mostly follow.
func someProof(r *rand.Rand, c *cnf.Cnf) [][]int {
	clauses := clausesOf(c)
	var proof [][]int
	for range r.IntN(12) {
		lits := someClause(r, c.Vars(), 3)
		if r.IntN(15) > 0 && !followsFrom(c.Vars(), clauses, lits) {
			continue
		}
		if r.IntN(15) == 0 {
			lits = append(lits, foreign(c.Vars())[r.IntN(3)])
		}
		proof = append(proof, lits)
		clauses = append(clauses, lits)
	}
	if r.IntN(3) > 0 {
		proof = append(proof, nil)
	}
	return proof
}

func TestP5_2SomeProofs(t *testing.T) {
	r := rand.New(rand.NewPCG(5, 3))
	count := map[api.Errno]int{}
	for range 10000 {
		c := someFormula(t, r, 2+r.IntN(5))
		count[mustAgree(t, c, someProof(r, c))]++
	}
	for _, err := range []api.Errno{api.OK, api.ErrRange, api.ErrProof, api.ErrEnd} {
		if count[err] < 500 {
			t.Errorf("P5.2: the results are not mixed: %v", count)
		}
	}
}

// TestP5_2ChangedProofs changes valid proofs, a literal or a clause each time.
func TestP5_2ChangedProofs(t *testing.T) {
	r := rand.New(rand.NewPCG(5, 4))
	count := map[api.Errno]int{}
	for range 300 {
		c := triples(t, r, 9, 6)
		proof := sat.Solve(c, math.MaxInt).Proof
		for range 10 {
			count[mustAgree(t, c, changed(r, proof))]++
		}
	}
	for _, err := range []api.Errno{api.OK, api.ErrRange, api.ErrProof, api.ErrEnd} {
		if count[err] < 50 {
			t.Errorf("P5.2: the results are not mixed: %v", count)
		}
	}
}

// changed returns a proof with one difference.
func changed(r *rand.Rand, proof [][]int) [][]int {
	var copied [][]int
	for _, lits := range proof {
		copied = append(copied, slices.Clone(lits))
	}
	if len(copied) == 0 {
		return [][]int{{}}
	}
	i := r.IntN(len(copied))
	switch lits := copied[i]; {
	case r.IntN(3) == 0:
		return slices.Delete(copied, i, i+1)
	case r.IntN(3) == 0 && i > 0:
		copied[i], copied[i-1] = copied[i-1], copied[i]
	case len(lits) == 0:
		copied[i] = []int{r.IntN(23) - 11}
	case r.IntN(3) == 0:
		copied[i] = lits[1:]
	case r.IntN(3) == 0:
		lits[r.IntN(len(lits))] = r.IntN(23) - 11
	default:
		copied[i] = append(lits, lits...)
	}
	return copied
}

func TestP5_2LongProofs(t *testing.T) {
	c := formula(t, api.MaxVars, square()...)
	proof := make([][]int, api.MaxClauses+10)
	for i := range proof {
		v := 1 + i%api.MaxVars
		proof[i] = []int{v, 1, v}
	}
	if at, err := rup.Check(c, proof...); at != len(proof) || err != api.ErrEnd {
		t.Errorf("P5.2: a proof of many clauses without an end: %d, error %d", at, err)
	}
	if at, err := rup.Check(c, append(proof, nil)...); at != 0 || err != api.OK {
		t.Errorf("P5.2: a proof of many clauses: %d, error %d", at, err)
	}
	long := make([]int, 3*api.MaxVars)
	for i := range long {
		long[i] = 3 + i%(api.MaxVars-2)
	}
	if at, err := rup.Check(c, long, nil); at != 0 || err != api.ErrProof {
		t.Errorf("P5.2: a long clause that does not follow: %d, error %d", at, err)
	}
	if at, err := rup.Check(c, append(long, 1), nil); at != 1 || err != api.ErrProof {
		t.Errorf("P5.2: a long clause that does not help: %d, error %d", at, err)
	}
	if at, err := rup.Check(c, append(long, 1), []int{1}, nil); at != 0 || err != api.OK {
		t.Errorf("P5.2: a long clause: %d, error %d", at, err)
	}
	full := cnf.New(2)
	for range api.MaxClauses {
		mustAdd(t, full, 1, 2)
	}
	if at, err := rup.Check(full, []int{1, 2}, []int{2, 1, 2}, []int{2}); at != 2 || err != api.ErrProof {
		t.Errorf("P5.2: a formula of many clauses: %d, error %d", at, err)
	}
}

// TestP5_2ArgumentsAreOnlyRead gives each clause something behind it.
func TestP5_2ArgumentsAreOnlyRead(t *testing.T) {
	r := rand.New(rand.NewPCG(5, 5))
	for range 300 {
		c := someFormula(t, r, 5)
		text := c.Text()
		var whole, before, proof [][]int
		for _, lits := range someProof(r, c) {
			lits = append(lits, 5, -5)
			whole, before = append(whole, lits), append(before, slices.Clone(lits))
			proof = append(proof, lits[:len(lits)-2])
		}
		at, err := rup.Check(c, proof...)
		again, same := rup.Check(c, proof...)
		if at != again || err != same || c.Text() != text || !slices.EqualFunc(whole, before, slices.Equal[[]int]) {
			t.Errorf("P5.2: %q: the arguments change: %v", text, whole)
		}
	}
}

// mustProve fails unless Solve finds that there is no model, and the proof is
// accepted, but not without its last clause.
func mustProve(t *testing.T, c *cnf.Cnf) {
	t.Helper()
	x := sat.Solve(c, math.MaxInt)
	if x.Verdict != sat.Unsat {
		t.Fatalf("P5.3: verdict %d", x.Verdict)
	}
	if at, err := rup.Check(c, x.Proof...); at != 0 || err != api.OK {
		t.Errorf("P5.3: clause %d of %d, error %d", at, len(x.Proof), err)
	}
	last := len(x.Proof) - 1
	if at, err := rup.Check(c, x.Proof[:last]...); at != last || err != api.ErrEnd {
		t.Errorf("P5.3: without the last of %d clauses: %d, error %d", last+1, at, err)
	}
}

func TestP5_3SmallFormulas(t *testing.T) {
	mustProve(t, formula(t, 0, nil))
	mustProve(t, formula(t, 3, nil, []int{1}))
	mustProve(t, formula(t, 1, []int{1}, []int{-1}))
	mustProve(t, formula(t, 2, square()...))
	r := rand.New(rand.NewPCG(5, 6))
	proved := 0
	for range 2000 {
		c := triples(t, r, 3+r.IntN(7), 5)
		if !hasModel(c) {
			mustProve(t, c)
			proved++
		}
	}
	if proved < 500 {
		t.Errorf("P5.3: only %d formulas have no model", proved)
	}
}

// TestP5_3LargeFormulas has formulas from whose proofs clauses are dropped by
// the solver, and one of as many variables as there can be.
func TestP5_3LargeFormulas(t *testing.T) {
	for holes := 1; holes <= 7; holes++ {
		mustProve(t, pigeons(t, holes+1, holes))
	}
	r := rand.New(rand.NewPCG(5, 7))
	for _, vars := range []int{60, 100, 150} {
		mustProve(t, triples(t, r, vars, 6))
	}
	circle := chain(t, api.MaxVars)
	mustAdd(t, circle, -api.MaxVars, -1)
	mustAdd(t, circle, 1, api.MaxVars)
	for v := 2; v <= api.MaxVars; v++ {
		mustAdd(t, circle, 1, -v)
	}
	mustProve(t, circle)
}
