package tool_test

import (
	"fmt"
	"slices"
	"strings"
	"testing"

	"sluicegate/sample"
	"sluicegate/src"
	"sluicegate/tool"
)

// mustFail fails unless the dump of a witness fails in the cycle that is reported and
// in no other, with that assertion, whatever picks are given.
func mustFail(t *testing.T, pick sample.Choice, files []src.File, file, top string, r tool.Report) {
	t.Helper()
	verdict := r.Lines[2]
	cycle := strings.Fields(verdict)[1]
	want := ""
	for i := range 5 {
		var picks []int
		if i > 0 {
			picks = anyPicks(pick)
		}
		before := show(picks)
		lines := tool.Replay(files, file, top, r.Witness, picks...)
		got := joined(lines)
		isOther := func(text string) bool { return !strings.HasPrefix(text, "fails "+cycle+" ") && text != "end" }
		if !slices.Contains(lines, strings.Replace(verdict, "fail", "fails", 1)) || slices.ContainsFunc(lines, isOther) || lines[len(lines)-1] != "end" {
			t.Fatalf("P27.3: %s, but %s with the picks %d: %q", verdict, got, picks, files)
		}
		if i > 0 && got != want || show(picks) != before {
			t.Fatalf("P27.3: %s, not %s, with the picks %d: %q", got, want, picks, files)
		}
		want = got
	}
}

// TestP27_2Model: verdicts are those of a model that examines all runs.
func TestP27_2Model(t *testing.T) {
	pick := chooser(27, 2)
	counts := map[string]int{}
	for range 1500 {
		m := anyMachine(pick)
		text, bound := m.text, 1+pick(8)
		cycle, names := m.first(bound)
		if cycle == 0 && pick(10) > 0 {
			continue // which most do
		}
		r := mustRun(t, one(text), "t.v", "top", bound, 100000)
		if len(r.Lines) != 3 {
			t.Fatalf("P27.1: %s:\n%s", joined(r.Lines), text)
		}
		want := fmt.Sprint("safe ", bound)
		if cycle < bound {
			i := slices.IndexFunc(names, func(name string) bool { return strings.HasSuffix(r.Lines[2], " "+name) })
			want = fmt.Sprint("fail ", cycle, " ", names[max(i, 0)])
			counts["fail "+fmt.Sprint(cycle)]++
		} else {
			counts["safe"]++
		}
		if r.Lines[2] != want {
			t.Fatalf("P27.2: %s, not %s (of %s):\n%s", r.Lines[2], want, names, text)
		}
		if cycle < bound {
			mustFail(t, pick, one(text), "t.v", "top", r)
		}
	}
	if counts["safe"] < 200 || counts["fail 0"] < 50 || counts["fail 1"] < 100 || counts["fail 2"] < 10 {
		t.Errorf("P27.2: only %v", counts)
	}
}
