package lex_test

import (
	"math/rand/v2"
	"regexp"
	"slices"
	"strings"
	"testing"

	"sluicegate/api"
	"sluicegate/lex"
	"sluicegate/lit"
	"sluicegate/pre"
	"sluicegate/src"
)

var (
	blankRun = regexp.MustCompile(`^[ \t\r\n]+`)
	nameRun  = regexp.MustCompile(`^[A-Za-z_$][A-Za-z0-9_]*`)
	digitRun = regexp.MustCompile(`^([0-9][0-9_]*('[A-Za-z0-9_]*)?|'[A-Za-z0-9_]*)`)
)

// expected is what Lex has to return for these pieces, if there are few.
func expected(pieces ...pre.Piece) ([]lex.Token, api.Pos, api.Errno) {
	var list []lex.Token
	for _, p := range pieces {
		for offset := 0; offset < len(p.Text); {
			rest := p.Text[offset:]
			if blanks := blankRun.FindString(rest); blanks != "" {
				offset += len(blanks)
				continue
			}
			token := lex.Token{Pos: posIn(p, offset)}
			if token.Text = nameRun.FindString(rest); token.Text != "" {
				token.Kind = lex.Name
			} else if token.Text = digitRun.FindString(rest); token.Text != "" {
				token.Kind = lex.Number
			} else if signs := longestSigns(rest[:min(3, len(rest))]); len(signs) > 0 {
				token.Kind, token.Text = lex.Sign, signs[0]
			}
			_, err := lit.Parse(token.Text)
			switch {
			case token.Kind == 0, token.Kind == lex.Number && err != api.OK:
				return nil, token.Pos, api.ErrLex
			case token.Kind == lex.Name && (len(token.Text) > 40 || token.Text == "$"):
				return nil, token.Pos, api.ErrName
			}
			list = append(list, token)
			offset += len(token.Text)
		}
	}
	return list, api.Pos{}, api.OK
}

// posIn returns the position of a byte of a piece.
func posIn(p pre.Piece, offset int) api.Pos {
	pos := p.Pos
	for _, c := range []byte(p.Text[:offset]) {
		switch {
		case p.Fixed:
		case c == '\n':
			pos.Line, pos.Col = pos.Line+1, 1
		default:
			pos.Col++
		}
	}
	return pos
}

// someText returns parts of tokens and blanks at random.
func someText(r *rand.Rand, most int) string {
	parts := []string{"a", "b9", "_", "$a", "0", "17", "4'b1", "8'hfF", "'d1", "1_2", "+", "<", "=", ">", "~", "^", "&", "|", "!", "(", ")", " ", "\n", "\t", "\r", ";"}
	rare := []string{"$", "'", "`", "\"", "\x00", "\xff", "é", "4'", "'x", strings.Repeat("n", 20), "\v"}
	text := ""
	for range r.IntN(most) {
		if r.IntN(60) == 0 {
			text += rare[r.IntN(len(rare))]
		}
		text += parts[r.IntN(len(parts))]
	}
	return text
}

// somePieces returns pieces at random.
func somePieces(r *rand.Rand) []pre.Piece {
	var pieces []pre.Piece
	for range r.IntN(5) {
		pos := api.Pos{File: r.IntN(3), Line: r.IntN(3), Col: r.IntN(90)}
		pieces = append(pieces, pre.Piece{Text: someText(r, 12), Pos: pos, Fixed: r.IntN(3) == 0})
	}
	return pieces
}

func TestP8_1RandomPieces(t *testing.T) {
	r := rand.New(rand.NewPCG(8, 1))
	counts := map[api.Errno]int{}
	for range 100000 {
		pieces := somePieces(r)
		list, pos, err := lex.Lex(pieces...)
		want, wantPos, wantErr := expected(pieces...)
		if !slices.Equal(list, want) || pos != wantPos || err != wantErr {
			t.Fatalf("P8.1:%s: %v, error %d at %v; want %v, error %d at %v", short(pieces...), list, err, pos, want, wantErr, wantPos)
		}
		counts[err]++
	}
	for _, err := range []api.Errno{api.OK, api.ErrLex, api.ErrName} {
		if counts[err] < 500 {
			t.Errorf("P8.1: the pieces are not diverse: error %d occurs %d times", err, counts[err])
		}
	}
}

// mustReturn fails unless Lex of the Text of the tokens returns them.
func mustReturn(t *testing.T, list []lex.Token) {
	t.Helper()
	text := lex.Text(list...)
	again, _, err := lex.Lex(pre.Piece{Text: text, Pos: api.Pos{File: 1, Line: 1, Col: 1}})
	col := 1
	for i, token := range list {
		if err != api.OK || len(again) != len(list) || again[i].Kind != token.Kind || again[i].Text != token.Text {
			t.Fatalf("P8.2: %q: %v, error %d; want %v", text, again, err, list)
		}
		if again[i].Pos != (api.Pos{File: 1, Line: 1, Col: col}) {
			t.Fatalf("P8.2: %q: token %d is at %v, not at column %d", text, i, again[i].Pos, col)
		}
		col += len(token.Text) + 1
	}
	if len(again) != len(list) || lex.Text(again...) != text {
		t.Fatalf("P8.2: %q: %v, error %d", text, again, err)
	}
}

func TestP8_2TextIsReadBack(t *testing.T) {
	r := rand.New(rand.NewPCG(8, 2))
	read := 0
	for range 30000 {
		list, _, err := lex.Lex(somePieces(r)...)
		if err == api.OK {
			mustReturn(t, list)
			read += len(list)
		}
	}
	if read < 10000 {
		t.Errorf("P8.2: only %d tokens", read)
	}
	mustReturn(t, nil)
	mustReturn(t, numbered(api.MaxTokens))
	for _, a := range allSigns {
		for _, b := range append(allSigns, "a", "$b", "9", "'b1", "4'b1") {
			mustReturn(t, []lex.Token{{Kind: lex.Sign, Text: a}, {Kind: kindOf(b), Text: b}, {Kind: lex.Sign, Text: a}})
		}
	}
	longest := strings.Repeat("n", api.MaxName)
	mustReturn(t, []lex.Token{{Kind: lex.Name, Text: longest}, {Kind: lex.Number, Text: "4"}, {Kind: lex.Number, Text: "'b1"}, {Kind: lex.Name, Text: "$" + longest[1:]}})
}

// mustCover fails unless the tokens are, at their positions, the bytes of the
// pieces that are not blanks.
func mustCover(t *testing.T, list []lex.Token, pieces ...pre.Piece) {
	t.Helper()
	for _, p := range pieces {
		for offset := 0; offset < len(p.Text); {
			if strings.IndexByte(" \t\r\n", p.Text[offset]) >= 0 {
				offset++
				continue
			}
			if len(list) == 0 || list[0].Text == "" || !strings.HasPrefix(p.Text[offset:], list[0].Text) || list[0].Pos != posIn(p, offset) {
				t.Fatalf("P8.3:%s: byte %d of %q belongs to no token, or is at %v: %.200v", short(pieces...), offset, p.Text, posIn(p, offset), list)
			}
			offset += len(list[0].Text)
			list = list[1:]
		}
	}
	if len(list) > 0 {
		t.Fatalf("P8.3:%s: the tokens %v belong to no byte", short(pieces...), list)
	}
}

func TestP8_3EveryByteBelongsToAToken(t *testing.T) {
	r := rand.New(rand.NewPCG(8, 3))
	for range 50000 {
		pieces := somePieces(r)
		if list, _, err := lex.Lex(pieces...); err == api.OK {
			mustCover(t, list, pieces...)
		}
	}
	long := piece(strings.Repeat("module m (input a, output [3:0] y);\n\tassign y = a ? 4'hF : ~y; // \r\nendmodule\n", 300))
	list, _, err := lex.Lex(long)
	if err != api.OK {
		t.Fatalf("P8.3: error %d", err)
	}
	mustCover(t, list, long)
}

// TestP8_3PositionsInFiles finds the tokens of preprocessed files in the files.
func TestP8_3PositionsInFiles(t *testing.T) {
	const text = "`define W 8'd5 + x\nmodule m; // comment\n\t`W /* a\nb */ <<< c\n`ifdef N\nn\n`else\n  assign\ty='b1;`endif_\n`endif\r\n`include \"b\"\nz\n"
	const other = "`W\r\n$y"
	x, err := src.New(src.File{Name: "a", Text: "`define endif_ end\n" + text}, src.File{Name: "b", Text: other})
	if err != api.OK {
		t.Fatalf("New: error %d", err)
	}
	pieces, _, err := pre.Expand(x, "a")
	if err != api.OK {
		t.Fatalf("Expand: error %d", err)
	}
	list, _, err := lex.Lex(pieces...)
	if got := lex.Text(list...); got != "module m ; 8'd5 + x <<< c assign y = 'b1 ; end 8'd5 + x $y z" || err != api.OK {
		t.Fatalf("P8.3: %q, error %d", got, err)
	}
	mustCover(t, list, pieces...)
	for _, token := range list {
		file, _ := x.Get(token.Pos.File)
		offset, err := x.Offset(token.Pos)
		isUse := err == api.OK && strings.HasPrefix(file.Text[offset:], "`")
		if err != api.OK || !isUse && !strings.HasPrefix(file.Text[offset:], token.Text) {
			t.Errorf("P8.3: %q is not at %v", token.Text, token.Pos)
		}
	}
}
