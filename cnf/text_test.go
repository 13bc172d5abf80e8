package cnf_test

import (
	"math/rand/v2"
	"regexp"
	"strconv"
	"strings"
	"testing"

	"sluicegate/api"
	"sluicegate/cnf"
)

// mustReject fails unless Parse returns that line and error, and nothing else.
func mustReject(t *testing.T, s string, line int, want api.Errno) {
	t.Helper()
	if c, at, err := cnf.Parse(s); c != nil || at != line || err != want {
		t.Errorf("P3.2: Parse(%q): %v, %d, error %d; want line %d, error %d", s, c, at, err, line, want)
	}
}

// mustRead fails unless Parse reads s, and Text writes it.
func mustRead(t *testing.T, s string) *cnf.Cnf {
	t.Helper()
	c, at, err := cnf.Parse(s)
	if c == nil || at != 0 || err != api.OK {
		t.Fatalf("P3.2: Parse(%q): %v, %d, error %d", s, c, at, err)
	}
	if got := c.Text(); got != s {
		t.Errorf("P3.2: Text is %q, want %q", got, s)
	}
	return c
}

func TestP3_2Text(t *testing.T) {
	c := cnf.New(2)
	if c.Add(2, -1, 2) != api.OK || c.Add(1, -1) != api.OK || c.Text() != "p cnf 2 1\n-1 2 0\n" {
		t.Errorf("P3.2: %q", c.Text())
	}
	for _, x := range []struct {
		vars    int
		clauses [][]int
		want    string
	}{
		{0, nil, "p cnf 0 0\n"},
		{0, [][]int{nil}, "p cnf 0 1\n0\n"},
		{60000, nil, "p cnf 60000 0\n"},
		{60000, [][]int{{-60000, 1}, nil, {59999}}, "p cnf 60000 3\n1 -60000 0\n0\n59999 0\n"},
		{3, [][]int{{1}, {1}, {3, -2, -1}}, "p cnf 3 3\n1 0\n1 0\n-1 -2 3 0\n"},
	} {
		c := formula(t, x.vars, x.clauses...)
		if got := c.Text(); got != x.want {
			t.Errorf("P3.2: %q, want %q", got, x.want)
		}
		mustHave(t, mustRead(t, x.want), x.vars, clausesOf(c)...)
	}
}

func clausesOf(c *cnf.Cnf) [][]int {
	var list [][]int
	for i := range c.Len() {
		list = append(list, c.Clause(i))
	}
	return list
}

func TestP3_2ParsedFormulasGrow(t *testing.T) {
	c := mustRead(t, "p cnf 2 1\n-1 2 0\n")
	if v, err := c.Var(); v != 3 || err != api.OK || c.Add(3, 1) != api.OK {
		t.Errorf("P3.2: Var after Parse: %d, error %d", v, err)
	}
	mustHave(t, c, 3, []int{-1, 2}, []int{1, 3})
}

func TestP3_2FirstLine(t *testing.T) {
	for _, head := range []string{
		"", " ", "p", "p cnf", "p cnf ", "p cnf 1", "p cnf 1 ", "p cnf  1 0", "p cnf 1  0", "p  cnf 1 0", " p cnf 1 0",
		"p cnf 1 0 ", "p cnf 1 0 0", "p CNF 1 0", "P cnf 1 0", "pcnf 1 0", "p cnf1 0", "p cnf 01 0", "p cnf 00 0",
		"p cnf 1 00", "p cnf 1 01", "p cnf +1 0", "p cnf 1 +0", "p cnf -1 0", "p cnf -0 0", "p cnf 1 -0", "p cnf 1 -1",
		"p cnf 1000000000 0", "p cnf 0 1000000000", "p cnf 0000000001 0", "p cnf 1 0\r", "p cnf\t1 0", "p cnf 1.0 0",
		"p cnf 0x1 0", "p cnf 1_0 0", "p cnf a 0", "p cnf 1 a", "p cnf １ 0", "p cnf 1\x00 0", "p cnf 1 \xff", "c a remark",
		"p cnf 60001 -1", "p cnf 99999999999999999999 0", "p cnf - 0", "p cnf 1 0 p cnf 1 0",
	} {
		mustReject(t, head, 1, api.ErrForm)
		mustReject(t, head+"\n", 1, api.ErrForm)
		mustReject(t, head+"\n0\n", 1, api.ErrForm)
	}
	for _, head := range []string{
		"p cnf 60001 0", "p cnf 999999999 0", "p cnf 0 200001", "p cnf 0 999999999", "p cnf 60001 200001",
	} {
		mustReject(t, head, 1, api.ErrRange)
		mustReject(t, head+"\n", 1, api.ErrRange)
		mustReject(t, head+"\nx", 1, api.ErrRange)
	}
	for _, head := range []string{"p cnf 1 0", "p cnf 60000 0", "p cnf 0 200000", "p cnf 0 1"} {
		mustReject(t, head, 1, api.ErrEnd)
	}
}

func TestP3_2ClauseLines(t *testing.T) {
	for _, line := range []string{
		"", " ", " 0", "0 ", "00", "-0", "+0", "1", "1 ", "1  0", "1 0 ", " 1 0", "1 0 0", "0 0", "0 1 0", "1 -0", "1 00",
		"+1 0", "01 0", "-01 0", "--1 0", "- 0", "-+1 0", "1- 0", "a 0", "1a 0", "1 a 0", "1 0x", "1 1 0", "1 -1 0",
		"-1 1 0", "2 1 0", "2 -1 0", "1 3 2 0", "1 2 2 3 0", "1\t0", "1 0\r", "1 0\x00", "\xff 0", "１ 0", "1000000000 0",
		"-1000000000 0", "0000000001 0", "1 2 3", "p cnf 3 1", "9 9 0", "9 8 0", "9", "9 x 0", "99999999999999999999 0",
		"1 4 0 0", "4 -4 0", "1.0 0", "1,2 0", "c 0",
	} {
		mustReject(t, "p cnf 3 2\n1 2 3 0\n"+line, 3, api.ErrForm)
		mustReject(t, "p cnf 3 2\n1 2 3 0\n"+line+"\n", 3, api.ErrForm)
		mustReject(t, "p cnf 3 3\n1 2 3 0\n"+line+"\n0\n", 3, api.ErrForm)
	}
	for _, line := range []string{"4 0", "-4 0", "1 4 0", "-1 -4 0", "4 5 0", "60000 0", "999999999 0", "-999999999 0"} {
		mustReject(t, "p cnf 3 2\n1 2 3 0\n"+line, 3, api.ErrRange)
		mustReject(t, "p cnf 3 2\n1 2 3 0\n"+line+"\n", 3, api.ErrRange)
		mustReject(t, "p cnf 3 3\n1 2 3 0\n"+line+"\nx\n", 3, api.ErrRange)
	}
	for _, line := range []string{"0", "1 0", "-3 0", "1 -2 3 0", "-1 -2 -3 0"} {
		mustReject(t, "p cnf 3 2\n1 2 3 0\n"+line, 3, api.ErrEnd)
		mustRead(t, "p cnf 3 2\n1 2 3 0\n"+line+"\n")
	}
	mustReject(t, "p cnf 0 1\n1 0\n", 2, api.ErrRange)
}

func TestP3_2NumberOfLines(t *testing.T) {
	mustReject(t, "\n", 1, api.ErrForm)
	mustReject(t, "p cnf 1 1\n", 2, api.ErrForm)
	mustReject(t, "p cnf 1 3\n1 0\n", 3, api.ErrForm)
	mustReject(t, "p cnf 1 3\n1 0\n0\n", 4, api.ErrForm)
	mustReject(t, "p cnf 1 2\n1 0", 2, api.ErrEnd)
	mustReject(t, "p cnf 1 1", 1, api.ErrEnd)
	for _, more := range []string{"\n", "0\n", "0", "2 0\n", "2 0", "x", "1 0\n1 0\n"} {
		mustReject(t, "p cnf 1 0\n"+more, 2, api.ErrForm)
		mustReject(t, "p cnf 1 1\n1 0\n"+more, 3, api.ErrForm)
	}
}

func TestP3_2LongClauses(t *testing.T) {
	words := func(n int) string {
		var text strings.Builder
		for i := range n {
			text.WriteString(strconv.Itoa(i+1) + " ")
		}
		return text.String()
	}
	mustRead(t, "p cnf 1000 1\n"+words(1000)+"0\n")
	mustRead(t, "p cnf 60000 2\n"+words(1000)+"0\n0\n")
	for _, n := range []int{1001, 1002, 2000, 60000} {
		mustReject(t, "p cnf 60000 1\n"+words(n)+"0\n", 2, api.ErrForm)
		mustReject(t, "p cnf 1 1\n"+words(n)+"0", 2, api.ErrForm)
	}
	mustReject(t, "p cnf 60000 1\n"+words(1000)+"\n", 2, api.ErrForm)
	mustReject(t, "p cnf 60000 1\n"+words(1000)+"0 0\n", 2, api.ErrForm)
	mustReject(t, "p cnf 999 1\n"+words(1000)+"0\n", 2, api.ErrRange)
	mustReject(t, "p cnf 999 1\n"+strings.Repeat("1 ", 1000000)+"0\n", 2, api.ErrForm)
	mustReject(t, strings.Repeat("p cnf ", 1000000), 1, api.ErrForm)
}

func TestP3_2ManyClauses(t *testing.T) {
	full := strings.Repeat("-2 60000 0\n", api.MaxClauses)
	if c := mustRead(t, "p cnf 60000 200000\n"+full); c.Len() != api.MaxClauses {
		t.Errorf("P3.2: %d clauses", c.Len())
	}
	mustReject(t, "p cnf 60000 200000\n"+full+"0\n", 200002, api.ErrForm)
	mustReject(t, "p cnf 60000 200001\n"+full+"0\n", 1, api.ErrRange)
	mustReject(t, "p cnf 60000 200000\n"+full[:len(full)-1], 200001, api.ErrEnd)
	mustReject(t, "p cnf 60000 200000\n"+full[:len(full)-len("-2 60000 0\n")], 200001, api.ErrForm)
}

var (
	head   = regexp.MustCompile(`^p cnf (0|[1-9][0-9]{0,8}) (0|[1-9][0-9]{0,8})$`)
	clause = regexp.MustCompile(`^(-?[1-9][0-9]{0,8} )*0$`)
)

// expected determines with expressions what Parse returns.
func expected(s string) (int, api.Errno) {
	lines := strings.SplitAfter(s, "\n")
	if lines[len(lines)-1] == "" {
		lines = lines[:len(lines)-1]
	}
	vars, clauses := 0, 0
	for i, line := range lines {
		text, ended := strings.CutSuffix(line, "\n")
		outside := false
		if i == 0 {
			sizes := head.FindStringSubmatch(text)
			if sizes == nil {
				return 1, api.ErrForm
			}
			vars, _ = strconv.Atoi(sizes[1])
			clauses, _ = strconv.Atoi(sizes[2])
			outside = vars > api.MaxVars || clauses > api.MaxClauses
		} else {
			if !clause.MatchString(text) || i > clauses {
				return i + 1, api.ErrForm
			}
			before := 0
			for _, word := range strings.Fields(strings.TrimSuffix(text, "0")) {
				n, _ := strconv.Atoi(word)
				if magnitude(n) <= before {
					return i + 1, api.ErrForm
				}
				before = magnitude(n)
			}
			outside = before > vars
		}
		if outside {
			return i + 1, api.ErrRange
		}
		if !ended {
			return i + 1, api.ErrEnd
		}
	}
	if len(lines) == 0 || len(lines) < clauses+1 {
		return len(lines) + 1, api.ErrForm
	}
	return 0, api.OK
}

// mustAgree fails unless Parse returns what is expected, and Text writes what
// it read.
func mustAgree(t *testing.T, s string) {
	t.Helper()
	if line, err := expected(s); err != api.OK {
		mustReject(t, s, line, err)
	} else {
		mustRead(t, s)
	}
}

func TestP3_2AllShortTexts(t *testing.T) {
	var visit func(s string, left int)
	visit = func(s string, left int) {
		mustAgree(t, s)
		for i := 0; i < 6 && left > 0; i++ {
			visit(s+"012- \n"[i:i+1], left-1)
		}
	}
	visit("p cnf ", 5)
	visit("p cnf 2 1\n", 6)
	visit("p cnf 1 2\n", 5)
}

func TestP3_2ChangedTexts(t *testing.T) {
	r := rand.New(rand.NewPCG(3, 2))
	alphabet := "0123456789- \n\r+pcnf\x00\xff"
	for range 20000 {
		vars := 1 + r.IntN(12)
		c := cnf.New(vars)
		for range r.IntN(5) {
			if err := c.Add(someClause(r, vars, 4)...); err != api.OK {
				t.Fatalf("P3.2: Add: error %d", err)
			}
		}
		text := c.Text()
		mustHave(t, mustRead(t, text), vars, clausesOf(c)...)
		at := r.IntN(len(text))
		letter := string(alphabet[r.IntN(len(alphabet))])
		mustAgree(t, text[:at]+letter+text[at+1:])
		mustAgree(t, text[:at]+letter+text[at:])
		mustAgree(t, text[:at]+text[at+1:])
		mustAgree(t, text[:at])
	}
}
