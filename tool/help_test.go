package tool_test

import (
	"fmt"
	"math/rand/v2"
	"regexp"
	"slices"
	"strconv"
	"strings"
	"testing"

	"sluicegate/api"
	"sluicegate/sample"
	"sluicegate/src"
	"sluicegate/tool"
)

const (
	least = -1 << 63
	most  = 1<<63 - 1
)

func chooser(a, b uint64) sample.Choice { return rand.New(rand.NewPCG(a, b)).IntN }

// show writes something without a difference between nil and empty lists.
func show(x any) string { return fmt.Sprintf("%+v", x) }

// one is the file t.v.
func one(text string) []src.File { return []src.File{{Name: "t.v", Text: text}} }

// joined writes lines as the document does.
func joined(lines []string) string { return strings.Join(lines, " / ") }

// anyPicks returns what a simulator may be given.
func anyPicks(pick sample.Choice) []int {
	var list []int
	for range pick(40) {
		list = append(list, pick(41)-20)
	}
	return list
}

// mustRun fails unless Run returns the same report twice and changes no argument.
func mustRun(t *testing.T, files []src.File, file, top string, bound, budget int) tool.Report {
	t.Helper()
	spare := slices.Concat(files, []src.File{{Name: "spare"}})
	before := show(spare)
	r := tool.Run(spare[:len(files)], file, top, bound, budget)
	again := tool.Run(slices.Clone(files), file, top, bound, budget)
	if show(r) != show(again) || show(spare) != before {
		t.Fatalf("P27.1: %s, and %s again: %q", show(r), show(again), files)
	}
	mustBeReport(t, files, r, bound)
	return r
}

var (
	places = regexp.MustCompile(`^(?:([A-Za-z0-9_.-]{1,40}):([1-9][0-9]*):([1-9][0-9]*): )?error ([1-9][0-9]?)$`)
	counts = regexp.MustCompile(`^design [0-9]+ [0-9]+ [0-9]+ / net [0-9]+ [0-9]+ / (.*)$`)
	early  = regexp.MustCompile(`^design [0-9]+ [0-9]+ [0-9]+ / error 19$`)
	fails  = regexp.MustCompile(`^fail ([0-9]+) ([^ ]+)$`)
	none   = regexp.MustCompile(`^unknown ([0-9]+) 1[89]$`)
)

// isPlace reports whether an error line is of an error at a position of one of the
// files, or without a position.
func isPlace(files []src.File, text string) bool {
	parts := places.FindStringSubmatch(text)
	if parts == nil {
		return false
	}
	if n, _ := strconv.Atoi(parts[4]); n > int(api.ErrNone) {
		return false
	}
	if parts[1] == "" {
		return true
	}
	table, err := src.New(files...)
	if err != api.OK {
		return false
	}
	line, _ := strconv.Atoi(parts[2])
	col, _ := strconv.Atoi(parts[3])
	_, err = table.Offset(api.Pos{File: table.Find(parts[1]), Line: line, Col: col})
	return err == api.OK
}

// mustBeReport fails unless a report has a form that the chapter describes.
func mustBeReport(t *testing.T, files []src.File, r tool.Report, bound int) {
	t.Helper()
	text := joined(r.Lines)
	if len(r.Lines) == 1 && isPlace(files, text) || early.MatchString(text) {
		mustHaveNoDump(t, r)
		return
	}
	parts := counts.FindStringSubmatch(text)
	if parts == nil {
		t.Fatalf("P27.1: %s: %q", text, files)
	}
	isLess := func(list []string) bool {
		n, err := strconv.Atoi(append(list, "", "")[1])
		return err == nil && n >= 0 && n < bound
	}
	switch {
	case isLess(fails.FindStringSubmatch(parts[1])):
		return
	case parts[1] == "safe "+strconv.Itoa(bound) && bound >= 1 && bound <= 12:
	case parts[1] == "error 3" && (bound < 1 || bound > 12):
	case isLess(none.FindStringSubmatch(parts[1])):
	default:
		t.Fatalf("P27.1: %s: %q", text, files)
	}
	mustHaveNoDump(t, r)
}

func mustHaveNoDump(t *testing.T, r tool.Report) {
	t.Helper()
	if r.Witness != "" || r.Signals != "" {
		t.Errorf("P27.1: a dump with %s", joined(r.Lines))
	}
}
