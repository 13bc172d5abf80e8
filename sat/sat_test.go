package sat_test

import (
	"math"
	"math/big"
	"math/rand/v2"
	"slices"
	"testing"

	"sluicegate/api"
	"sluicegate/cnf"
	"sluicegate/sat"
)

func TestP4_1SmallFormulas(t *testing.T) {
	for _, x := range []struct {
		vars    int
		clauses [][]int
		want    int
	}{
		{0, nil, sat.Sat},
		{1, nil, sat.Sat},
		{5, nil, sat.Sat},
		{0, [][]int{nil}, sat.Unsat},
		{3, [][]int{nil}, sat.Unsat},
		{3, [][]int{nil, nil, {1}}, sat.Unsat},
		{3, [][]int{{1}, {2, 3}, nil}, sat.Unsat},
		{1, [][]int{{1}, {-1}}, sat.Unsat},
		{1, [][]int{{-1}, {1}, {1}}, sat.Unsat},
		{1, [][]int{{1}, {1}}, sat.Sat},
		{1, [][]int{{-1}, {-1}}, sat.Sat},
		{1, [][]int{{1, -1}}, sat.Sat},
		{2, [][]int{{1, 2}}, sat.Sat},
		{2, [][]int{{1, 1, 2}, {-2, -2}}, sat.Sat},
		{2, [][]int{{1, 2}, {1, -2}, {-1, 2}}, sat.Sat},
		{2, [][]int{{1, 2}, {1, -2}, {-1, 2}, {-1, -2}}, sat.Unsat},
		{2, [][]int{{1, 2, 1}, {-2, 1, -2}, {-1, 2, 2}, {-1, -2, -2}, {2, -2}}, sat.Unsat},
		{3, [][]int{{1, 2, 3}, {-1}, {-2}, {-3}}, sat.Unsat},
		{3, [][]int{{1, 2, 3}, {-1}, {-2}}, sat.Sat},
	} {
		c := formula(t, x.vars, x.clauses...)
		mustSolve(t, c, sat.Enough(x.vars), x.want)
	}
}

func TestP4_1TheVerdictIsCorrect(t *testing.T) {
	r := rand.New(rand.NewPCG(4, 1))
	count := [3]int{}
	for range 3000 {
		vars := 1 + r.IntN(9)
		c := someFormula(t, r, vars, r.IntN(6*vars), 1+r.IntN(3), 3+r.IntN(2))
		want := sat.Unsat
		if hasModel(c) {
			want = sat.Sat
		}
		mustSolve(t, c, sat.Enough(vars), want)
		count[want]++
	}
	if count[sat.Sat] < 500 || count[sat.Unsat] < 500 {
		t.Errorf("P4.1: the formulas are not mixed: %v", count)
	}
}

// TestP4_1EveryFormulaOfTwoVariables covers all sets of the nine clauses.
func TestP4_1EveryFormulaOfTwoVariables(t *testing.T) {
	clauses := [][]int{{}, {1}, {-1}, {2}, {-2}, {1, 2}, {1, -2}, {-1, 2}, {-1, -2}}
	for set := range 1 << len(clauses) {
		c := cnf.New(2)
		for i, lits := range clauses {
			if set>>i&1 == 1 {
				mustAdd(t, c, lits...)
			}
		}
		want := sat.Unsat
		if hasModel(c) {
			want = sat.Sat
		}
		mustSolve(t, c, sat.Enough(2), want)
	}
}

func TestP4_1Families(t *testing.T) {
	const budget = math.MaxInt
	r := rand.New(rand.NewPCG(4, 2))
	for n := 1; n <= 7; n++ {
		mustSolve(t, pigeons(t, n, n), budget, sat.Sat)
		mustSolve(t, pigeons(t, n, n+1), budget, sat.Sat)
		mustSolve(t, pigeons(t, n+1, n), budget, sat.Unsat)
	}
	mustSolve(t, pigeons(t, 30, 30), budget, sat.Sat)
	for _, vars := range []int{2, 3, 64, 101, 1000, 1001} {
		mustSolve(t, ring(t, vars), budget, sat.Sat+vars%2)
	}
	for inputs := 2; inputs <= 12; inputs++ {
		mustSolve(t, parities(t, r, inputs), budget, sat.Unsat)
	}
}

// TestP4_2LongSearches takes so many conflicts that clauses are dropped.
func TestP4_2LongSearches(t *testing.T) {
	const budget = math.MaxInt
	r := rand.New(rand.NewPCG(4, 3))
	if x := mustSolve(t, pigeons(t, 8, 7), budget, sat.Unsat); x.Conflicts < 3000 {
		t.Errorf("P4.2: only %d conflicts", x.Conflicts)
	}
	mustSolve(t, someFormula(t, r, 160, 900, 3, 3), budget, sat.Unsat)
	for range 10 {
		c := someFormula(t, r, 150, 630, 3, 3)
		mustBeValid(t, c, budget, sat.Solve(c, budget))
	}
}

func TestP4_1LargeFormulas(t *testing.T) {
	r := rand.New(rand.NewPCG(4, 4))
	chain := cnf.New(api.MaxVars)
	for v := api.MaxVars; v > 1; v-- {
		mustAdd(t, chain, 1-v, v)
	}
	mustSolve(t, chain, 0, sat.Sat)
	mustAdd(t, chain, 1)
	mustSolve(t, chain, 0, sat.Sat)
	mustAdd(t, chain, -api.MaxVars)
	mustSolve(t, chain, 0, sat.Unsat)
	full := cnf.New(api.MaxVars)
	for i := range api.MaxClauses {
		mustAdd(t, full, 1+i%api.MaxVars, -1-(i+7919)%api.MaxVars)
	}
	mustSolve(t, full, math.MaxInt, sat.Sat)
	mustSolve(t, ring(t, api.MaxVars), math.MaxInt, sat.Sat)
	mustSolve(t, ring(t, api.MaxVars-1), math.MaxInt, sat.Unsat)
	mustSolve(t, someFormula(t, r, api.MaxVars, 150000, 3, 3), math.MaxInt, sat.Sat)
	mustSolve(t, someFormula(t, r, api.MaxVars, 20000, 900, 1000), math.MaxInt, sat.Sat)
}

func TestP4_1SolveOnlyReads(t *testing.T) {
	for _, c := range []*cnf.Cnf{pigeons(t, 5, 4), pigeons(t, 5, 5), formula(t, 2, []int{1}, []int{-1, 2})} {
		before := c.Text()
		first := sat.Solve(c, math.MaxInt)
		second := sat.Solve(c, math.MaxInt)
		if c.Text() != before || !same(first, second) {
			t.Errorf("P4.1: Solve changes the formula, or what it returns for it")
		}
		for _, lits := range first.Proof {
			clear(lits)
		}
		clear(first.Model)
		clear(first.Proof)
		mustBeValid(t, c, math.MaxInt, second)
		if third := sat.Solve(c, math.MaxInt); !same(second, third) {
			t.Errorf("P4.1: results share memory")
		}
	}
}

// TestP4_2ProofsShareNoMemory writes to each clause and behind it.
func TestP4_2ProofsShareNoMemory(t *testing.T) {
	x := sat.Solve(pigeons(t, 5, 4), math.MaxInt)
	want := make([][]int, len(x.Proof))
	for i, lits := range x.Proof {
		want[i] = slices.Clone(lits)
	}
	for i, lits := range x.Proof {
		clear(lits[:cap(lits)])
		if i+1 < len(want) && !slices.EqualFunc(x.Proof[i+1:], want[i+1:], slices.Equal[[]int]) {
			t.Fatalf("P4.2: clause %d shares memory with others", i)
		}
	}
}

func TestP4_3PropagationNeedsNoBudget(t *testing.T) {
	for _, budget := range []int{math.MinInt, -1, 0, 1, math.MaxInt} {
		for _, x := range []struct {
			vars    int
			clauses [][]int
			want    int
		}{
			{0, nil, sat.Sat},
			{0, [][]int{nil}, sat.Unsat},
			{1, [][]int{nil}, sat.Unsat},
			{1, [][]int{{1}}, sat.Sat},
			{1, [][]int{{1}, {-1}}, sat.Unsat},
			{4, [][]int{{-3, 4}, {-2, 3}, {-1, 2}, {1}}, sat.Sat},
			{4, [][]int{{-3, 4}, {-2, 3}, {-1, 2}, {1}, {-4}}, sat.Unsat},
			{4, [][]int{{-3, 4}, {-2, 3}, {-1, 2}, {1}, {-4, -1}}, sat.Unsat},
			{4, [][]int{{-4, -2, -1}, {1}, {-1, 2}, {3, 4}, {3, 4, -1}}, sat.Sat},
			{5, [][]int{{1, 2, 3, 4}, {-1}, {-2}, {-3}, {-4, 5}, {-5, 2, -4}}, sat.Unsat},
		} {
			if got := mustSolve(t, formula(t, x.vars, x.clauses...), budget, x.want); got.Conflicts != 0 {
				t.Errorf("P4.3: %v: %d conflicts", x.clauses, got.Conflicts)
			}
		}
	}
}

func TestP4_3NegativeBudgetsCountAsZero(t *testing.T) {
	for _, c := range []*cnf.Cnf{pigeons(t, 4, 3), pigeons(t, 4, 4), ring(t, 5), ring(t, 6), cnf.New(3)} {
		want := sat.Solve(c, 0)
		mustBeValid(t, c, 0, want)
		for _, budget := range []int{-1, -17, math.MinInt} {
			if got := sat.Solve(c, budget); !same(got, want) {
				t.Errorf("P4.3: budget %d: %+v, want %+v", budget, got, want)
			}
		}
	}
}

// mustGrow fails unless the verdict within a budget is that of the whole
// search, or Unknown if it needs more conflicts.
func mustGrow(t *testing.T, c *cnf.Cnf) {
	t.Helper()
	whole := sat.Solve(c, math.MaxInt)
	if whole.Verdict == sat.Unknown {
		t.Fatalf("P4.3: unknown in spite of the budget")
	}
	budgets := []int{0, 1, 2, whole.Conflicts / 2, whole.Conflicts + 1, 2*whole.Conflicts + 7, math.MaxInt - 1}
	for back := range min(whole.Conflicts, 5) + 1 {
		budgets = append(budgets, whole.Conflicts-back)
	}
	for _, budget := range budgets {
		got := sat.Solve(c, budget)
		mustBeValid(t, c, budget, got)
		if budget >= whole.Conflicts && !same(got, whole) {
			t.Errorf("P4.3: budget %d: verdict %d, %d conflicts; want %d, %d", budget, got.Verdict, got.Conflicts, whole.Verdict, whole.Conflicts)
		}
		if budget < whole.Conflicts && got.Verdict != sat.Unknown {
			t.Errorf("P4.3: budget %d: verdict %d, but with a greater one there are %d conflicts", budget, got.Verdict, whole.Conflicts)
		}
	}
}

func TestP4_3GreaterBudgets(t *testing.T) {
	r := rand.New(rand.NewPCG(4, 5))
	for range 300 {
		vars := 1 + r.IntN(40)
		mustGrow(t, someFormula(t, r, vars, r.IntN(5*vars), 2, 3))
	}
	for n := 2; n <= 6; n++ {
		mustGrow(t, pigeons(t, n, n))
		mustGrow(t, pigeons(t, n+1, n))
	}
	mustGrow(t, parities(t, r, 9))
	mustGrow(t, someFormula(t, r, 140, 600, 3, 3))
}

func TestP4_3EveryBudget(t *testing.T) {
	c := pigeons(t, 6, 5)
	whole := sat.Solve(c, math.MaxInt)
	if whole.Conflicts < 10 {
		t.Errorf("P4.3: only %d conflicts", whole.Conflicts)
	}
	for budget := range whole.Conflicts {
		if got := sat.Solve(c, budget); got.Verdict != sat.Unknown || got.Conflicts != budget {
			t.Errorf("P4.3: budget %d: verdict %d, %d conflicts", budget, got.Verdict, got.Conflicts)
		}
	}
}

func TestP4_3Enough(t *testing.T) {
	for vars := range 36 {
		want := new(big.Int).Exp(big.NewInt(3), big.NewInt(int64(vars)), nil)
		want.Mul(want, big.NewInt(6))
		if got := sat.Enough(vars); !want.IsInt64() || int64(got) != want.Int64() {
			t.Errorf("P4.3: Enough(%d) = %d, want %s", vars, got, want)
		}
	}
	for _, vars := range []int{36, 37, 38, 40, 41, 64, 1000, math.MaxInt} {
		if got := sat.Enough(vars); got != 1<<62 {
			t.Errorf("P4.3: Enough(%d) = %d", vars, got)
		}
	}
	for _, vars := range []int{-1, -35, math.MinInt} {
		if got := sat.Enough(vars); got != 6 {
			t.Errorf("P4.3: Enough(%d) = %d", vars, got)
		}
	}
}

// lubyTo returns the first 2^k - 1 numbers of the sequence.
func lubyTo(k int) []int {
	if k == 0 {
		return nil
	}
	half := lubyTo(k - 1)
	return append(slices.Concat(half, half), 1<<(k-1))
}

func TestP4_4Luby(t *testing.T) {
	for i, want := range lubyTo(17) {
		if got := sat.Luby(i + 1); got != want {
			t.Fatalf("P4.4: Luby(%d) = %d, want %d", i+1, got, want)
		}
	}
	for k := 1; k <= 63; k++ {
		end := 1<<(k-1) - 1 + 1<<(k-1)
		if got := sat.Luby(end); got != 1<<(k-1) {
			t.Errorf("P4.4: Luby(%d) = %d", end, got)
		}
		if k == 63 {
			break
		}
		for i := 1; i <= min(end, 40); i++ {
			if got := sat.Luby(end + i); got != sat.Luby(i) && i < end {
				t.Errorf("P4.4: Luby(%d) = %d, want %d", end+i, got, sat.Luby(i))
			}
		}
	}
	for _, i := range []int{0, -1, -2, -1 << 40, math.MinInt} {
		if got := sat.Luby(i); got != 0 {
			t.Errorf("P4.4: Luby(%d) = %d", i, got)
		}
	}
}

// TestP4_1NoFormula solves what cnf.Parse returns with an error.
func TestP4_1NoFormula(t *testing.T) {
	c, _, _ := cnf.Parse("")
	if x := sat.Solve(c, 0); x.Verdict != sat.Sat || len(x.Model) != 0 {
		t.Errorf("P4.1: %+v", x)
	}
}
