package record_test

import (
	"slices"
	"testing"

	"cusp/api"
	"cusp/record"
)

// P10.3: Trace, Affected and Open.

// traced reports another trace.
func traced(t *testing.T, l []api.Event, part string, wanted record.Trail) {
	t.Helper()
	same(t, "Trace of "+part, fine[record.Trail](t)(record.Trace(l, part)), wanted)
}

// affects reports other parts that are affected by a lot.
func affects(t *testing.T, l []api.Event, lot string, wanted ...string) {
	t.Helper()
	same(t, "Affected by "+lot, fine[[]string](t)(record.Affected(l, lot)), wanted)
}

// opened reports other open items.
func opened(t *testing.T, l []api.Event, wanted ...record.Want) {
	t.Helper()
	same(t, "Open", fine[[]record.Want](t)(record.Open(l)), wanted)
}

// remade returns events of a part that was remade three times, with the same scan and lot twice, and a repair.
func remade() []api.Event {
	return after(chapter(7), event(0, "lot", []int{5, 9}, "a", "zir"), event(0, "repair", []int{5}, "q", "a"), event(0, "remake", []int{5}, "b", "q", "s", "z"), event(0, "remake", []int{5}, "B", "b", "t", "z"), event(0, "repair", []int{5}, "B", "y"), event(0, "lot", []int{5, 9}, "Z", "zir"), event(0, "repair", []int{5}, "B", "Z"))
}

func TestTrace(t *testing.T) {
	traced(t, chapter(7), "q", record.Trail{Rx: "r", Parts: []string{"q", "p"}, Scans: []string{"t", "s"}, Lots: []string{"y", "z"}})
	traced(t, chapter(7), "p", record.Trail{Rx: "r", Parts: []string{"p"}, Scans: []string{"s"}, Lots: []string{"z"}})
	traced(t, remade(), "B", record.Trail{Rx: "r", Parts: []string{"B", "b", "q", "p"}, Scans: []string{"t", "s", "t", "s"}, Lots: []string{"Z", "a", "y", "z"}})
	traced(t, remade(), "b", record.Trail{Rx: "r", Parts: []string{"b", "q", "p"}, Scans: []string{"s", "t", "s"}, Lots: []string{"a", "y", "z"}})
	traced(t, remade(), "p", record.Trail{Rx: "r", Parts: []string{"p"}, Scans: []string{"s"}, Lots: []string{"z"}})
	// A part that is made anew replaces nothing.
	anew := after(chapter(7), event(0, "void", []int{5}, "q"), event(0, "make", []int{5, 1}, "x", "r", "s", "y"))
	traced(t, anew, "x", record.Trail{Rx: "r", Parts: []string{"x"}, Scans: []string{"s"}, Lots: []string{"y"}})
}

func TestAffected(t *testing.T) {
	affects(t, chapter(3), "z")
	affects(t, chapter(7), "z", "p", "q")
	affects(t, chapter(7), "y", "q")
	affects(t, remade(), "z", "p", "q", "b", "B")
	affects(t, remade(), "y", "q", "b", "B")
	affects(t, remade(), "a", "q", "b", "B")
	affects(t, remade(), "Z", "B")
	affects(t, after(chapter(7), undo(0)), "y")
}

func TestOpen(t *testing.T) {
	first, second := record.Want{Rx: "r", Item: 1}, record.Want{Rx: "r", Item: 2}
	opened(t, nil)
	opened(t, chapter(1), first, second)
	opened(t, chapter(4), second)
	opened(t, chapter(7), second)
	opened(t, after(chapter(7), event(0, "ship", []int{5}, "q")), second)
	opened(t, after(chapter(7), event(0, "void", []int{5}, "q")), first, second)
	opened(t, more(), second, record.Want{Rx: "d", Item: 1})
	opened(t, after(more(), event(0, "make", []int{6, 2}, "x", "r", "s", "n"), event(0, "void", []int{6}, "o")), record.Want{Rx: "d", Item: 1}, record.Want{Rx: "d", Item: 2})
}

func TestErrorsOfTraces(t *testing.T) {
	faulty := after(chapter(7), event(0, "void", []int{5}, "x"))
	many := make([]api.Event, 1001)
	check := func(l []api.Event, name string, wanted api.Errno) {
		t.Helper()
		trail, e := record.Trace(l, name)
		refused(t, "Trace of "+name, trail, e, wanted)
		parts, e := record.Affected(l, name)
		refused(t, "Affected by "+name, parts, e, wanted)
	}
	for _, name := range badNames() {
		check(chapter(7), name, api.ErrName)
		check(nil, name, api.ErrName)
		check(faulty, name, api.ErrUnknown)
		check(many, name, api.ErrMany)
	}
	for _, name := range []string{"x", "r", "s", "P", "zir", longName} {
		check(chapter(7), name, api.ErrUnknown)
		check(nil, name, api.ErrUnknown)
	}
	_, e := record.Trace(chapter(7), "z")
	same(t, "Trace of a lot", e, api.ErrUnknown)
	_, e = record.Affected(chapter(7), "p")
	same(t, "Affected by a part", e, api.ErrUnknown)
	_, e = record.Trace(after(chapter(7), undo(0)), "q")
	same(t, "Trace of a part that is gone", e, api.ErrUnknown)
	for _, l := range [][]api.Event{faulty, many} {
		open, e := record.Open(l)
		_, _, wanted := record.Replay(l)
		refused(t, "Open", open, e, wanted)
	}
}

// TestRandomTraces compares traces, affected parts and open items with the definitions.
func TestRandomTraces(t *testing.T) {
	r := dice()
	longest := 0
	for range 300 {
		l := randomEvents(r, 120)
		s := shelfOf(l)
		for _, name := range s.order['P'] {
			traced(t, l, name, s.trail(name))
			longest = max(longest, len(s.trail(name).Parts))
		}
		for _, lot := range s.order['L'] {
			var parts []string
			for _, name := range s.order['P'] {
				if slices.Contains(s.trail(name).Lots, lot) {
					parts = append(parts, name)
				}
			}
			affects(t, l, lot, parts...)
		}
		opened(t, l, s.open()...)
	}
	if longest < 5 {
		t.Errorf("the longest trace has %d parts", longest)
	}
}
