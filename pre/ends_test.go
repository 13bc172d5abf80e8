package pre_test

import (
	"strconv"
	"strings"
	"testing"

	"sluicegate/api"
	"sluicegate/pre"
)

// tower defines names each of whose bodies has as many uses of the next one; the
// last one has a body of its own.
func tower(levels, uses int, last string) string {
	text := ""
	for i := range levels - 1 {
		text += "`define T" + strconv.Itoa(i) + " " + strings.Repeat("`T"+strconv.Itoa(i+1), uses) + "\n"
	}
	return text + "`define T" + strconv.Itoa(levels-1) + " " + last + "\n"
}

func TestP7_3ManyUses(t *testing.T) {
	mustHaveText(t, strings.Repeat("\n", 8)+strings.Repeat("x", 1<<7), tower(8, 2, "x")+"`T0")
	mustHaveText(t, strings.Repeat("\n", 8)+strings.Repeat("x", 4*4*4*4*4*4*4), tower(8, 4, "x")+"`T0")
	mustReject(t, api.ErrSize, "1:9:1", tower(8, 5, "x")+"`T0")
	mustReject(t, api.ErrSize, "1:9:1", tower(8, 1000, "x")+"`T0")
	mustHaveText(t, strings.Repeat("\n", 8), tower(8, 1000, "")+"`T0")
	mustHaveText(t, strings.Repeat("\n", 8)+strings.Repeat(" ", 2000), tower(8, 1000, "")+strings.Repeat(" `T0", 2000))
	mustReject(t, api.ErrName, "1:9:1", tower(8, 1000, "`X")+"`T0")
	mustReject(t, api.ErrDeep, "1:10:1", tower(9, 1000, "")+"`T0")
	mustHaveText(t, strings.Repeat("\n", 16), tower(8, 600, "")+tower(8, 600, "")+"`T0`T0")
	mustHaveText(t, strings.Repeat("\n", 10)+"x\n\n\n", tower(8, 600, "")+"`define T1 x\n`define T0 `T1`T2`T3\n`T0\n`define T0 `T2\n`T0\n")
}

func TestP7_3NamesThatUseThemselves(t *testing.T) {
	for _, body := range []string{"`A", "`A`A", "x`A", "`A x", "`B", "`B`B", "`C`A", "`C`B", strings.Repeat("`C", 500) + "`B"} {
		mustReject(t, api.ErrDeep, "1:4:2", "`define A "+body+"\n`define B `A`A\n`define C\n `A")
	}
}

func TestP7_3FilesThatIncludeThemselves(t *testing.T) {
	const a, b, c = "`include \"a\"\n", "`include \"b\"\n", "`include \"c\"\n"
	mustReject(t, api.ErrDeep, "1:1:1", a)
	mustReject(t, api.ErrDeep, "1:1:1", "`include \"a\"")
	mustReject(t, api.ErrDeep, "1:2:1", "x\n"+strings.Repeat(a, 2000))
	mustReject(t, api.ErrDeep, "2:1:1", b+b, a+a)
	mustReject(t, api.ErrDeep, "3:1:1", c+b, c+a, b)
	mustReject(t, api.ErrDeep, "1:1:1", "`include \"a\"\n`X\n")
	pieces, _, err := pre.Expand(table(t, strings.Repeat(b, 500), strings.Repeat(c, 500), "`ifdef X\n"+strings.Repeat("\n", 1500)+"`endif"), "a")
	if pieces != nil || err != api.ErrSize {
		t.Errorf("P7.3: many files: %d pieces, error %d", len(pieces), err)
	}
}

// TestP7_3ManyBlocks has as many blocks within each other, and one after the
// other, as there is space for.
func TestP7_3ManyBlocks(t *testing.T) {
	const count = api.MaxSource / len("`ifdef A\n`endif\n")
	mustHaveText(t, "", strings.Repeat("`ifdef A\n", count)+strings.TrimSuffix(strings.Repeat("`endif\n", count), "\n"))
	mustHaveText(t, strings.Repeat("\n", count), strings.Repeat("`ifdef A\n`endif\n", count))
	mustReject(t, api.ErrEnd, "1:"+strconv.Itoa(count)+":1", strings.Repeat("`ifdef A\n", count))
}

func TestP7_3LargeFiles(t *testing.T) {
	for _, text := range []string{"\n", "x", " ", "/", "*", "/**/", "//\n", "x\n", "/*\n*/", "\"", "\r\n", "\x00", "\xff"} {
		whole := strings.Repeat(text, api.MaxSource/len(text))
		mustAgree(t, whole)
	}
	for text, want := range map[string]api.Errno{"`": api.ErrForm, "`A": api.ErrName, "`endif\n": api.ErrForm, "`ifdef A\n": api.ErrEnd, "`undef A\n": api.OK, "`define A `A\n": api.OK, "`define A\n`A\n": api.OK} {
		whole := strings.Repeat(text, api.MaxSource/len(text))
		if _, _, err := pre.Expand(table(t, whole), "a"); err != want {
			t.Errorf("P7.3: many times %q: error %d, want %d", text, err, want)
		}
	}
}
