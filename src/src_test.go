package src_test

import (
	"math/rand/v2"
	"slices"
	"strconv"
	"strings"
	"testing"

	"sluicegate/api"
	"sluicegate/src"
)

// mustHold fails unless the table holds exactly these files.
func mustHold(t *testing.T, x *src.Table, files ...src.File) {
	t.Helper()
	if x.Len() != len(files) {
		t.Errorf("P6.1: %d files, want %d", x.Len(), len(files))
	}
	for i, want := range files {
		if got, err := x.Get(i + 1); got != want || err != api.OK {
			t.Errorf("P6.1: Get(%d) = %q, error %d; want %q", i+1, got, err, want)
		}
		if n := x.Find(want.Name); n != i+1 {
			t.Errorf("P6.1: Find(%q) = %d, want %d", want.Name, n, i+1)
		}
	}
	for _, n := range append(extremes(), 0, len(files)+1) {
		if got, err := x.Get(n); got != (src.File{}) || err != api.ErrNone {
			t.Errorf("P6.1: Get(%d) of %d files = %q, error %d", n, len(files), got, err)
		}
	}
}

// mustAccept fails unless New accepts the files.
func mustAccept(t *testing.T, files ...src.File) {
	t.Helper()
	x, err := src.New(files...)
	if x == nil || err != api.OK {
		t.Errorf("P6.1: New of %d files: error %d", len(files), err)
		return
	}
	mustHold(t, x, files...)
}

// mustReject fails unless New returns that error, and no table.
func mustReject(t *testing.T, want api.Errno, files ...src.File) {
	t.Helper()
	if x, err := src.New(files...); x != nil || err != want {
		t.Errorf("P6.1: New of %d files: %v, error %d, want %d", len(files), x, err, want)
	}
}

// named returns files with these names.
func named(names ...string) []src.File {
	var files []src.File
	for i, name := range names {
		files = append(files, src.File{Name: name, Text: strings.Repeat("x", i)})
	}
	return files
}

func TestP6_1New(t *testing.T) {
	mustAccept(t)
	mustAccept(t, src.File{Name: "t.v"})
	mustAccept(t, src.File{Name: "t.v", Text: "module t; endmodule\n"})
	mustAccept(t, src.File{Name: "a", Text: "same"}, src.File{Name: "b", Text: "same"}, src.File{Name: "c"})
	mustAccept(t, src.File{Name: "bytes", Text: "\x00\xff\n\n\r"}, src.File{Name: "Bytes", Text: "\n"})
	mustAccept(t, named("z", "y", "x", "-", "_", ".", "..", "0", "-1", "a.v", "A.v", "a.v.")...)
}

func TestP6_1Find(t *testing.T) {
	x, err := src.New(named("b.v", "a.v", "A.v", "a")...)
	if err != api.OK {
		t.Fatalf("P6.1: New: error %d", err)
	}
	for name, want := range map[string]int{
		"b.v": 1, "a.v": 2, "A.v": 3, "a": 4,
		"": 0, "B.v": 0, "b": 0, "b.v ": 0, " b.v": 0, "b.v\x00": 0, "a.": 0, "1": 0, "b.va.v": 0,
	} {
		if got := x.Find(name); got != want {
			t.Errorf("P6.1: Find(%q) = %d, want %d", name, got, want)
		}
	}
}

func TestP6_1Names(t *testing.T) {
	for b := range 256 {
		allowed := strings.IndexByte("abcdefghijklmnopqrstuvwxyzABCDEFGHIJKLMNOPQRSTUVWXYZ0123456789_-.", byte(b)) >= 0
		for _, name := range []string{string([]byte{byte(b)}), string([]byte{'a', byte(b)}), string([]byte{byte(b), 'a'}), string([]byte{'a', byte(b), 'a'})} {
			if allowed {
				mustAccept(t, named(name)...)
			} else {
				mustReject(t, api.ErrName, named(name)...)
			}
		}
	}
	for _, name := range []string{"", "a b", "a/b", "a\\b", "é", "a\u00e9", "\u0430", "\u212a", "\u0661", "\xff\xfe", strings.Repeat("é", 20)} {
		mustReject(t, api.ErrName, named(name)...)
		mustReject(t, api.ErrName, named("first", name)...)
		mustReject(t, api.ErrName, named(name, "last")...)
	}
	mustAccept(t, named(strings.Repeat("n", api.MaxName), strings.Repeat("m", api.MaxName))...)
	mustReject(t, api.ErrName, named(strings.Repeat("n", api.MaxName+1))...)
	mustReject(t, api.ErrName, named(strings.Repeat("n", 10000))...)
}

func TestP6_1Numbers(t *testing.T) {
	var names []string
	for i := range api.MaxFiles {
		names = append(names, "f"+strconv.Itoa(i))
	}
	mustAccept(t, named(names...)...)
	mustReject(t, api.ErrLimit, named(append(names, "more")...)...)
	mustReject(t, api.ErrLimit, make([]src.File, 1000)...)
}

func TestP6_1Sizes(t *testing.T) {
	text := strings.Repeat("x\n", api.MaxSource/2)
	half := text[:len(text)/2]
	mustAccept(t, src.File{Name: "a", Text: text})
	mustAccept(t, src.File{Name: "a", Text: text}, src.File{Name: "b"})
	mustAccept(t, src.File{Name: "a", Text: half}, src.File{Name: "b", Text: half})
	mustReject(t, api.ErrSize, src.File{Name: "a", Text: text + "x"})
	mustReject(t, api.ErrSize, src.File{Name: "a", Text: text}, src.File{Name: "b", Text: "x"})
	mustReject(t, api.ErrSize, src.File{Name: "a", Text: "x"}, src.File{Name: "b", Text: half}, src.File{Name: "c", Text: half})
	mustReject(t, api.ErrSize, src.File{Name: "a", Text: text + text}, src.File{Name: "b"})
}

// TestP6_1FirstError has several errors at once, the one that counts in a later
// file than the others.
func TestP6_1FirstError(t *testing.T) {
	big := strings.Repeat("x", api.MaxSource+1)
	mustReject(t, api.ErrTwice, named("a", "a")...)
	mustReject(t, api.ErrTwice, named("a", "b", "c", "b")...)
	mustReject(t, api.ErrTwice, src.File{Name: "a", Text: big}, src.File{Name: "b"}, src.File{Name: "b"})
	mustReject(t, api.ErrName, named("", "")...)
	mustReject(t, api.ErrName, named("a", "a", "a/")...)
	mustReject(t, api.ErrName, src.File{Name: "a", Text: big}, src.File{Name: ""})
	many := make([]src.File, api.MaxFiles+1)
	mustReject(t, api.ErrLimit, many...)
	for i := range many {
		many[i] = src.File{Name: "same", Text: big}
	}
	mustReject(t, api.ErrLimit, many...)
	mustReject(t, api.ErrTwice, many[1:]...)
	mustReject(t, api.ErrSize, many[0])
}

// TestP6_1TheTableIsIndependent changes the list after the call.
func TestP6_1TheTableIsIndependent(t *testing.T) {
	whole := append(named("a", "b", "c"), src.File{Name: "behind", Text: "it"})
	files := whole[:3]
	before := slices.Clone(whole)
	x, err := src.New(files...)
	if err != api.OK || !slices.Equal(whole, before) {
		t.Fatalf("P6.1: New: error %d, and the files are now %q", err, whole)
	}
	clear(whole)
	mustHold(t, x, before[:3]...)
	f, _ := x.Get(1)
	f.Name, f.Text = "other", "text"
	mustHold(t, x, before[:3]...)
	if f.Name != "other" {
		t.Errorf("P6.1: %q", f)
	}
}

func TestP6_1SomeTables(t *testing.T) {
	r := rand.New(rand.NewPCG(6, 1))
	count := map[api.Errno]int{}
	for range 5000 {
		files := make([]src.File, r.IntN(api.MaxFiles+2))
		for i := range files {
			name := []byte("file" + strconv.Itoa(r.IntN(400)))
			if r.IntN(30) == 0 {
				name[r.IntN(len(name))] = byte(r.IntN(256))
			}
			files[i] = src.File{Name: string(name), Text: strings.Repeat("12345\n78", r.IntN(500))}
		}
		want := expected(files)
		count[want]++
		if want != api.OK {
			mustReject(t, want, files...)
		} else {
			mustAccept(t, files...)
		}
	}
	for _, err := range []api.Errno{api.OK, api.ErrName, api.ErrTwice, api.ErrSize, api.ErrLimit} {
		if count[err] < 50 {
			t.Errorf("P6.1: the results are not mixed: %v", count)
		}
	}
}

// expected is what New has to return, a step for each error.
func expected(files []src.File) api.Errno {
	if len(files) > 16 {
		return api.ErrLimit
	}
	for _, f := range files {
		for _, b := range []byte(f.Name) {
			if b != '_' && b != '-' && b != '.' && (b < '0' || b > 'z' || b > '9' && b < 'A' || b > 'Z' && b < 'a') {
				return api.ErrName
			}
		}
	}
	size, known := 0, map[string]bool{}
	for _, f := range files {
		size += len(f.Text)
		known[f.Name] = true
	}
	if len(known) < len(files) {
		return api.ErrTwice
	}
	if size > 32768 {
		return api.ErrSize
	}
	return api.OK
}

// TestP6_1NoTable has what New returns with an error, and the zero value.
func TestP6_1NoTable(t *testing.T) {
	none, _ := src.New(src.File{})
	for _, x := range []*src.Table{none, {}} {
		mustHold(t, x)
		if n := x.Find(""); n != 0 {
			t.Errorf("P6.1: Find without a table: %d", n)
		}
		if p, err := x.Pos(1, 0); p != (api.Pos{}) || err != api.ErrNone {
			t.Errorf("P6.2: Pos without a table: %v, error %d", p, err)
		}
		if n, err := x.Offset(api.Pos{File: 1, Line: 1, Col: 1}); n != 0 || err != api.ErrNone {
			t.Errorf("P6.2: Offset without a table: %d, error %d", n, err)
		}
		if s, err := x.Line(1, 1); s != "" || err != api.ErrNone {
			t.Errorf("P6.3: Line without a table: %q, error %d", s, err)
		}
		if n := x.Lines(1); n != 0 {
			t.Errorf("P6.3: Lines without a table: %d", n)
		}
	}
}
