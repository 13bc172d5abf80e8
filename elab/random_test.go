package elab_test

import (
	"math/rand/v2"
	"slices"
	"strings"
	"testing"

	"sluicegate/api"
	"sluicegate/ast"
	"sluicegate/elab"
	"sluicegate/flat"
	"sluicegate/lex"
	"sluicegate/parse"
	"sluicegate/pre"
)

// samples are sources with a module top.
func samples() []string {
	return []string{
		"module top ( input clk , input [ 3 : 0 ] a , input b , output reg [ 3 : 0 ] q = 3 , output [ 3 : 0 ] y ) ; wire [ 3 : 0 ] w ; sub # ( . K ( 2 ) ) u ( . clk ( clk ) , . a ( a ) , . y ( w ) ) ; sub v ( . clk ( clk ) , . a ( w ^ 1 ) , . y ( y ) ) ; always @ ( posedge clk ) begin q <= w + a ; if ( b ) ok : assert ( w != 3 ) ; end endmodule module sub # ( parameter K = 1 ) ( input clk , input [ 3 : 0 ] a , output reg [ 3 : 0 ] y ) ; always @ ( posedge clk ) y <= a + K ; endmodule",
		"module top ( input [ 7 : 0 ] a , input signed [ 1 : 0 ] b , output reg [ 7 : 0 ] q , output y ) ; integer i ; wire w ; always @ * begin q = 0 ; for ( i = 0 ; i < 4 ; i = i + 1 ) if ( a [ i ] ) q [ i ] = b ; else q [ b ] = a ; case ( b ) 0 , 1 : q = a ; 2 : q [ 3 : 1 ] = w ; default : ; endcase end assign w = & a ; assign y = w | b [ 1 ] ; endmodule",
		"module top ( input [ 3 : 0 ] a , output [ 3 : 0 ] y ) ; genvar g ; localparam N = 4 ; for ( g = 0 ; g < N ; g = g + 1 ) begin : h wire w ; if ( g % 2 == 0 ) begin : even assign w = a [ g ] ; end else begin : odd assign w = ~ a [ g ] ; end assign y [ g ] = w ; end endmodule",
		"module top ( input [ 3 : 0 ] a , input [ 3 : 0 ] b , output [ 3 : 0 ] y ) ; function [ 3 : 0 ] f ; input [ 3 : 0 ] a ; input c ; reg [ 3 : 0 ] r ; integer i ; begin r = a ; for ( i = 0 ; i < 3 ; i = i + 1 ) begin r [ i ] = r [ i + 1 ] ^ c ; if ( c ) f = f + r ; end case ( c ) 0 : f = r ; default : f [ 2 : 1 ] = i ; endcase end endfunction assign y = f ( a , b [ 0 ] ) + f ( b , 1 ) ; endmodule",
		"module top ( input clk , input [ 1 : 0 ] a , input [ 7 : 0 ] d , output [ 7 : 0 ] y ) ; reg [ 7 : 0 ] m [ 0 : 3 ] ; reg [ 1 : 0 ] k = - 1 ; reg [ 7 : 0 ] t ; always @ ( posedge clk ) begin t = d + m [ k ] ; m [ a ] <= t ; k <= k + 1 ; if ( k == 1 ) p : assert ( m [ 0 ] == 5 ) ; else assert ( t ) ; end assign y = m [ a ] ; endmodule",
		"module top ( input clk , input a , output y , output z ) ; one u ( . clk ( clk ) , . a ( a ) , . y ( y ) , . z ( z ) ) ; endmodule module one ( input clk , input a , output y , output z ) ; two # ( . W ( 3 ) ) t ( . clk ( clk ) , . d ( { a , a , a } ) , . q ( ) ) ; if ( 1 ) begin : g wire w ; two t ( . clk ( clk ) , . d ( a ) , . q ( w ) ) ; assign y = w ; end assign z = a ; endmodule module two # ( parameter W = 1 ) ( input clk , input [ W - 1 : 0 ] d , output reg [ W - 1 : 0 ] q = 0 ) ; localparam V = W * 2 ; always @ ( posedge clk ) if ( d ) q <= d + V ; endmodule",
	}
}

// scan returns the tokens of a text. Their positions are their numbers.
func scan(t *testing.T, text string) []lex.Token {
	t.Helper()
	tokens, _, err := lex.Lex(pre.Piece{Text: text})
	if err != api.OK {
		t.Fatalf("no tokens: %s", text)
	}
	return placed(tokens)
}

func placed(tokens []lex.Token) []lex.Token {
	list := slices.Clone(tokens)
	for i := range list {
		list[i].Pos = api.Pos{File: 1, Line: 1, Col: i + 1}
	}
	return list
}

// changed returns tokens of which a few are other ones of all.
func changed(r *rand.Rand, tokens, all []lex.Token) []lex.Token {
	list := slices.Clone(tokens)
	for range 1 + r.IntN(3) {
		at := r.IntN(len(list))
		switch r.IntN(4) {
		case 0:
			list = slices.Delete(list, at, at+1)
		case 1:
			list = slices.Insert(list, at, all[r.IntN(len(all))])
		default:
			list[at] = all[r.IntN(len(all))]
		}
	}
	return placed(list)
}

// mustEnd fails unless mods lead to a valid design, or to an error at one of
// the positions.
func mustEnd(t *testing.T, mods []ast.Module, isPos func(pos api.Pos) bool) api.Errno {
	t.Helper()
	before := show(mods)
	d, pos, err := elab.Elaborate(mods, "top")
	again, otherPos, otherErr := elab.Elaborate(mods, "top")
	text := ast.Text(mods...)
	if show(d) != show(again) || pos != otherPos || err != otherErr || show(mods) != before {
		t.Fatalf("P14.5: not the same again: %s", text)
	}
	if err != api.OK {
		if !isPos(pos) || show(d) != show(flat.Design{}) {
			t.Fatalf("P14.5: error %d at %v: %s", err, pos, text)
		}
		return err
	}
	if _, _, err := flat.Analyze(d); err != api.OK || pos != (api.Pos{}) {
		t.Fatalf("P14.1: error %d: %s", err, text)
	}
	if fault := faultOf(d); fault != "" {
		t.Fatalf("P14.1: %s: %s", fault, text)
	}
	return api.OK
}

// TestP14_5ChangedSources: sources in which some tokens are wrong.
func TestP14_5ChangedSources(t *testing.T) {
	r := rand.New(rand.NewPCG(14, 5))
	all := scan(t, strings.Join(samples(), " "))
	counts := map[api.Errno]int{}
	for _, text := range samples() {
		built(t, "P14.1", text)
		tokens := scan(t, text)
		for range 6000 {
			list := changed(r, tokens, all)
			mods, _, err := parse.Parse(list...)
			if err != api.OK {
				continue
			}
			counts[mustEnd(t, mods, func(pos api.Pos) bool {
				return pos == (api.Pos{}) || pos.File == 1 && pos.Line == 1 && pos.Col >= 1 && pos.Col <= len(list)
			})]++
		}
	}
	for _, err := range []api.Errno{api.OK, api.ErrRange, api.ErrName, api.ErrTwice, api.ErrKind, api.ErrPort, api.ErrDrive} {
		if counts[err] < 10 {
			t.Errorf("error %d occurs only %d times", err, counts[err])
		}
	}
}

// spoiler changes trees at random, so that they are not valid.
type spoiler struct {
	r    *rand.Rand
	odds int // one of so many elements is changed
}

func (s *spoiler) chance() bool { return s.r.IntN(s.odds) == 0 }

func (s *spoiler) word(word string) string {
	if !s.chance() {
		return word
	}
	words := strings.Fields("top sub a b clk q y w i g f N K wire reg integer input output + - == ~ $signed 1 4'd3 5' x 129'h0")
	if n := s.r.IntN(len(words) + 1); n < len(words) {
		return words[n]
	}
	return ""
}

// list returns a list in which elements are missing, or occur twice.
func list[T any](s *spoiler, elements []T, change func(x T) T) []T {
	var all []T
	for _, x := range elements {
		switch {
		case !s.chance():
			all = append(all, change(x))
		case s.r.IntN(2) == 0:
			all = append(all, change(x), change(x))
		case s.r.IntN(4) == 0:
			var zero T
			all = append(all, zero)
		}
	}
	return all
}

func (s *spoiler) kind(kind int) int {
	if s.chance() {
		return s.r.IntN(14) - 1
	}
	return kind
}

func (s *spoiler) expr(e ast.Expr) ast.Expr {
	return ast.Expr{Kind: s.kind(e.Kind), Pos: e.Pos, Text: s.word(e.Text), Args: list(s, e.Args, s.expr)}
}

func (s *spoiler) stmt(x ast.Stmt) ast.Stmt {
	arm := func(a ast.Arm) ast.Arm { return ast.Arm{Exprs: list(s, a.Exprs, s.expr), Body: s.stmt(a.Body)} }
	return ast.Stmt{Kind: s.kind(x.Kind), Pos: x.Pos, Text: s.word(x.Text), Exprs: list(s, x.Exprs, s.expr), Body: list(s, x.Body, s.stmt), Arms: list(s, x.Arms, arm)}
}

func (s *spoiler) item(x ast.Item) ast.Item {
	conn := func(c ast.Conn) ast.Conn {
		return ast.Conn{Name: s.word(c.Name), Pos: c.Pos, Exprs: list(s, c.Exprs, s.expr)}
	}
	return ast.Item{
		Kind: s.kind(x.Kind), Pos: x.Pos, Text: s.word(x.Text), Type: s.word(x.Type), Signed: x.Signed != s.chance(), Exprs: list(s, x.Exprs, s.expr), First: list(s, x.First, s.expr),
		Body: list(s, x.Body, s.stmt), Items: list(s, x.Items, s.item), Else: list(s, x.Else, s.item), Params: list(s, x.Params, conn), Ports: list(s, x.Ports, conn),
	}
}

func (s *spoiler) module(m ast.Module) ast.Module {
	return ast.Module{Name: s.word(m.Name), Pos: m.Pos, Params: list(s, m.Params, s.item), Ports: list(s, m.Ports, s.item), Items: list(s, m.Items, s.item)}
}

// TestP14_5InvalidTrees: calls return for all trees.
func TestP14_5InvalidTrees(t *testing.T) {
	r := rand.New(rand.NewPCG(14, 6))
	accepted := 0
	for _, text := range samples() {
		mods, _, _ := parse.Parse(scan(t, text)...)
		for range 2000 {
			s := &spoiler{r, 20 + r.IntN(300)}
			d, pos, err := elab.Elaborate(list(s, mods, s.module), "top")
			if err != api.OK && show(d) != show(flat.Design{}) || err == api.OK && pos != (api.Pos{}) {
				t.Fatalf("P14.5: error %d at %v", err, pos)
			}
			if _, _, err := flat.Analyze(d); err != api.OK {
				t.Fatalf("P14.1: error %d", err)
			}
			if err == api.OK {
				accepted++
			}
		}
	}
	if accepted < 100 {
		t.Errorf("only %d trees are accepted", accepted)
	}
}

// TestP14_5EmptyTrees: elements of all kinds without anything.
func TestP14_5EmptyTrees(t *testing.T) {
	for kind := -1; kind <= 13; kind++ {
		for _, item := range []ast.Item{
			{Kind: kind}, {Kind: kind, Text: "a", Type: "wire"}, {Kind: kind, Text: "clk", Type: "top"}, {Kind: kind, Items: []ast.Item{{}}, Exprs: []ast.Expr{{Kind: ast.Num, Text: "1"}}},
			{Kind: ast.Comb, Body: []ast.Stmt{{Kind: kind}}}, {Kind: ast.Comb, Body: []ast.Stmt{{Kind: kind, Arms: []ast.Arm{{}, {Exprs: []ast.Expr{{}}}}}}},
			{Kind: ast.Func, Body: []ast.Stmt{{Kind: kind}}}, {Kind: ast.Func, Items: []ast.Item{{Kind: kind}}}, {Kind: ast.Assign, Exprs: []ast.Expr{{Kind: kind, Text: "a"}}},
			{Kind: ast.Inst, Type: "top", Text: "u", Ports: []ast.Conn{{Name: "a"}}}, {Kind: ast.GenFor, Items: []ast.Item{{Kind: kind}}},
		} {
			ports := []ast.Item{{Kind: ast.Net, Type: "input", Text: "a"}}
			mods := []ast.Module{{Name: "top", Ports: ports, Items: []ast.Item{item}}, {Name: "port", Ports: []ast.Item{item}}, {Name: "param", Params: []ast.Item{item}}}
			for _, top := range []string{"top", "port", "param"} {
				d, _, err := elab.Elaborate(mods, top)
				if _, _, fault := flat.Analyze(d); fault != api.OK || err != api.OK && len(d.Sigs) > 0 {
					t.Errorf("P14.5: %v: %v, error %d", item, d, err)
				}
			}
		}
	}
}

// TestP14_5UnknownKinds: what is in no chapter is an error, and not left out.
func TestP14_5UnknownKinds(t *testing.T) {
	null := []ast.Stmt{{Kind: ast.Null}}
	for _, kind := range []int{-1, 0, 9, 12, 100} {
		for _, item := range []ast.Item{
			{Kind: kind + 1000}, {Kind: ast.Comb, Body: []ast.Stmt{{Kind: kind}}}, {Kind: ast.Func, Text: "f", Body: []ast.Stmt{{Kind: kind}}}, {Kind: ast.Assign, Exprs: []ast.Expr{{Kind: kind + 1000}}},
			{Kind: ast.Net, Type: "logic", Text: "a"}, {Kind: ast.Net, Type: "input", Text: "a"}, {Kind: ast.Func, Items: []ast.Item{{Kind: ast.Net, Type: "wire"}}, Body: null}, {Kind: ast.Func, Items: []ast.Item{{Kind: ast.Param}}, Body: null},
			{Kind: ast.GenIf, Exprs: []ast.Expr{{Kind: ast.Num, Text: "1"}}, Items: []ast.Item{{Kind: ast.Genvar}}}, {Kind: ast.Comb}, {Kind: ast.Func},
			{Kind: ast.Func, Text: "f", Exprs: []ast.Expr{{Kind: ast.Num, Text: "0"}, {Kind: ast.Num, Text: "0"}, {Kind: ast.Num, Text: "0"}, {Kind: ast.Num, Text: "0"}}, Body: null},
		} {
			if _, err := errorOf([]ast.Module{{Name: "top", Items: []ast.Item{item}}}); err != api.ErrForm {
				t.Errorf("P14.5: %v: error %d", item, err)
			}
		}
	}
	zero := ast.Expr{Kind: ast.Num, Text: "0"}
	for _, port := range []ast.Item{{Kind: ast.Net, Type: "wire"}, {Kind: ast.Param, Type: "input"}, {Kind: ast.Net, Type: "input", Exprs: []ast.Expr{zero, zero, zero, zero}}} {
		if _, err := errorOf([]ast.Module{{Name: "top", Ports: []ast.Item{port}}}); err != api.ErrForm {
			t.Errorf("P14.5: %v: error %d", port, err)
		}
	}
}
