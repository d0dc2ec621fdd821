package record_test

import (
	"fmt"
	"strings"
	"testing"

	"cusp/api"
	"cusp/record"
)

// P10.2: CheckEvent, Replay and Accepts.

// good returns an event of each kind.
func good() []api.Event { return append(chapter(7), some()...) }

// some returns events of the kinds that the chapter has no example of.
func some() []api.Event {
	return []api.Event{event(8, "repair", []int{5}, "q", "z"), event(9, "ship", []int{5}, "q"), event(10, "void", []int{5}, "q"), undo(11)}
}

func TestCheckEvent(t *testing.T) {
	for _, e := range good() {
		same(t, body(e), record.CheckEvent(e), api.OK)
		for number, wanted := range map[int]api.Errno{1: api.OK, 1000: api.OK, 0: api.ErrRange, 1001: api.ErrRange, -1: api.ErrRange, least: api.ErrRange, greatest: api.ErrRange} {
			e.Number = number
			same(t, body(e), record.CheckEvent(e), wanted)
		}
		e.Number = 1000
		for _, kind := range []string{"", "Rx", "rx ", "part", "open", "trace", "affected", "case", "undone", "\x00"} {
			other := e
			other.Kind = kind
			same(t, body(other), record.CheckEvent(other), api.ErrKind)
		}
		checkNamesOf(t, e)
		checkValuesOf(t, e)
		checkTextOf(t, e)
	}
}

// checkNamesOf has an event with other names.
func checkNamesOf(t *testing.T, e api.Event) {
	t.Helper()
	names := e.Names
	for _, bad := range badNames() {
		for i := range names {
			e.Names = append([]string{}, names...)
			e.Names[i] = bad
			same(t, "the name "+bad, record.CheckEvent(e), api.ErrName)
			e.Names[i] = longName
			same(t, "a long name", record.CheckEvent(e), api.OK)
		}
	}
	e.Names = append(append([]string{}, names...), "x")
	same(t, "one more name", record.CheckEvent(e), api.ErrShape)
	if len(names) > 0 {
		e.Names = names[1:]
		same(t, "one name less", record.CheckEvent(e), api.ErrShape)
		e.Names = nil
		same(t, "no names", record.CheckEvent(e), api.ErrShape)
	}
}

// checkValuesOf has an event with other values.
func checkValuesOf(t *testing.T, e api.Event) {
	t.Helper()
	values := e.Values
	for i := range values {
		for v, wanted := range map[int]api.Errno{0: api.OK, 999999999: api.OK, 1000000000: api.ErrRange, -1: api.ErrRange, least: api.ErrRange, greatest: api.ErrRange} {
			e.Values = append([]int{}, values...)
			e.Values[i] = v
			same(t, fmt.Sprint("the value ", v), record.CheckEvent(e), wanted)
		}
	}
	e.Values = append(append([]int{}, values...), 1)
	same(t, "one more value", record.CheckEvent(e), api.ErrShape)
	if len(values) > 0 {
		e.Values = values[1:]
		same(t, "one value less", record.CheckEvent(e), api.ErrShape)
	}
}

// checkTextOf has an event with other texts.
func checkTextOf(t *testing.T, e api.Event) {
	t.Helper()
	wanted := api.ErrForm
	if e.Kind == "rx" {
		wanted = api.OK
	}
	for _, text := range []string{printed, "case c; crown 4 in x;", "case c; bridge 1-16 in x shade A gap 20;"} {
		e.Text = text
		same(t, "the text "+text, record.CheckEvent(e), wanted)
	}
	for _, text := range []string{
		" ", "x", "case c;", "case c; crown 33 in x;", "case c; crown 4 in x", " case c; crown 4 in x;", "case c; crown 4 in x; ", "case c; crown 4 in x;\n", "case c;  crown 4 in x;", "case c;crown 4 in x;", "case c ; crown 4 in x;", "case c; crown 4 in x gap 0;",
		"case c; bridge 6 - 8 in x;", "case c; bridge 6 -8 in x;", "case c;\ncrown 4 in x;", "case c; crown 4 in 4;", "case c; veneer 4 in x;", strings.Repeat("x", 4097), printed + strings.Repeat(" ", 4096),
	} {
		e.Text = text
		same(t, "the text "+short(text), record.CheckEvent(e), api.ErrForm)
	}
	e.Text = ""
	wanted = api.OK
	if e.Kind == "rx" {
		wanted = api.ErrForm
	}
	same(t, "no text", record.CheckEvent(e), wanted)
}

// TestOrderOfErrorsOfEvents has events with several errors, of which the first ones are put right, one after another.
func TestOrderOfErrorsOfEvents(t *testing.T) {
	e := api.Event{Kind: "x", Names: []string{"1", "2", "3"}, Values: []int{-1, 2}, Text: "x"}
	check := func(byItself, wanted api.Errno) {
		t.Helper()
		same(t, fmt.Sprint(e), record.CheckEvent(e), byItself)
		same(t, "Accepts", record.Accepts(nil, e), wanted)
		_, at, bad := record.Replay([]api.Event{e})
		same(t, "Replay", bad, wanted)
		same(t, "the place", at, 1)
	}
	check(api.ErrRange, api.ErrRange)
	e.Number = 2
	check(api.ErrKind, api.ErrKind)
	e.Kind = "lot"
	check(api.ErrShape, api.ErrShape)
	e.Names = e.Names[:2]
	check(api.ErrName, api.ErrName)
	e.Names = []string{"a", "1"}
	check(api.ErrName, api.ErrName)
	e.Names = []string{"a", "b"}
	check(api.ErrRange, api.ErrRange)
	e.Values = []int{3, 1000000000}
	check(api.ErrRange, api.ErrRange)
	e.Values[1] = 2
	check(api.ErrForm, api.ErrForm)
	e.Text = ""
	check(api.OK, api.ErrOrder)
	e.Number = 1
	check(api.OK, api.ErrRange)
	same(t, "nothing", record.CheckEvent(api.Event{}), api.ErrRange)
}

// accepts reports another error with which an event, with the next Number, is not accepted, by Replay, too.
func accepts(t *testing.T, l []api.Event, e api.Event, wanted api.Errno) {
	t.Helper()
	all := after(l, e)
	what := line(e) + " after " + fmt.Sprint(len(l))
	same(t, what, record.Accepts(l, all[len(l)]), wanted)
	r, at, bad := record.Replay(all)
	if wanted == api.OK {
		same(t, what, r, shelfOf(all).register())
		same(t, what, bad, api.OK)
		same(t, what, at, 0)
		return
	}
	refused(t, what, r, bad, wanted)
	same(t, "the place of "+what, at, len(all))
}

func TestReplay(t *testing.T) {
	accepts(t, chapter(6), chapter(7)[6], api.OK)
	r, at, e := record.Replay(nil)
	same(t, "Replay of nothing", r, record.Register{})
	same(t, "its error", e, api.OK)
	same(t, "its place", at, 0)
	r, _, _ = record.Replay(chapter(7))
	want := record.Register{
		Day: 5, Rxs: []record.Rx{{Name: "r", Script: script()}},
		Scans: []record.Scan{{Name: "s", Rx: "r"}, {Name: "t", Rx: "r"}},
		Lots:  []record.Lot{{Name: "z", Material: "zir", Until: 9}, {Name: "y", Material: "zir", Until: 99}},
		Parts: []record.Part{{Name: "p", Rx: "r", Scan: "s", Item: 1, Lots: []string{"z"}, State: "void"}, {Name: "q", Rx: "r", Scan: "t", Item: 1, Old: "p", Lots: []string{"y"}, State: "made"}},
	}
	same(t, "Replay", r, want)
	r, _, _ = record.Replay(after(chapter(7), event(0, "repair", []int{9}, "q", "z"), event(0, "ship", []int{9}, "q")))
	want.Day, want.Parts[1].Lots, want.Parts[1].State = 9, []string{"y", "z"}, "shipped"
	same(t, "Replay of a repair", r, want)
	faulty := chapter(7)
	faulty[3].Names = []string{"p", "r", "s"}
	r, at, e = record.Replay(faulty)
	refused(t, "Replay of faulty events", r, e, api.ErrShape)
	same(t, "the place", at, 4)
}

func TestOrderOfEvents(t *testing.T) {
	for n, wanted := range map[int]api.Errno{1: api.ErrOrder, 3: api.ErrOrder, 4: api.OK, 5: api.ErrOrder, 1000: api.ErrOrder, 1001: api.ErrRange} {
		same(t, "another Number", record.Accepts(chapter(3), undo(n)), wanted)
		same(t, "another Number", record.Accepts(chapter(3), event(n, "lot", []int{2, 9}, "k", "met")), wanted)
	}
	same(t, "the first one", record.Accepts(nil, rx(2, 1, "r", printed)), api.ErrOrder)
	// An undo is an event, too.
	same(t, "behind an undo", record.Accepts(after(chapter(1), undo(0)), rx(2, 1, "r", printed)), api.ErrOrder)
	same(t, "behind an undo", record.Accepts(after(chapter(1), undo(0)), rx(3, 1, "r", printed)), api.OK)
	l := chapter(7)
	l[2].Number = 4
	same(t, "after events with an error", record.Accepts(l, api.Event{}), api.ErrOrder)
}

func TestUndo(t *testing.T) {
	accepts(t, nil, undo(0), api.ErrEmpty)
	accepts(t, chapter(1), undo(0), api.OK)
	accepts(t, after(chapter(1), undo(0)), undo(0), api.ErrEmpty)
	accepts(t, after(chapter(2), undo(0), undo(0)), undo(0), api.ErrEmpty)
	// The second undo takes away the prescription, not the first undo.
	back := after(chapter(3), undo(0), undo(0))
	accepts(t, back, event(0, "scan", []int{0}, "s", "r"), api.ErrState)
	accepts(t, back, event(0, "scan", []int{1}, "s", "r"), api.OK)
	accepts(t, back, event(0, "lot", []int{1, 5}, "z", "zir"), api.OK)
	accepts(t, after(back, undo(0)), event(0, "scan", []int{1}, "s", "r"), api.ErrUnknown)
	// What an undo takes away may come again, and what was void is so no longer.
	undone := after(chapter(7), undo(0))
	accepts(t, undone, event(0, "ship", []int{4}, "p"), api.OK)
	accepts(t, undone, event(0, "ship", []int{4}, "q"), api.ErrUnknown)
	accepts(t, undone, chapter(7)[6], api.OK)
	r, _, _ := record.Replay(undone)
	six, _, _ := record.Replay(chapter(6))
	same(t, "the register before", r, six)
	accepts(t, after(undone, chapter(7)[6]), undo(0), api.OK)
	repaired := after(chapter(5), event(0, "repair", []int{4}, "p", "y"))
	accepts(t, repaired, event(0, "repair", []int{4}, "p", "y"), api.ErrTwice)
	accepts(t, after(repaired, undo(0)), event(0, "repair", []int{4}, "p", "y"), api.OK)
}

// more returns the events of the chapter, and those of a second prescription with a scan, lots, and a part that is shipped, on the day 6.
func more() []api.Event {
	return after(chapter(7),
		rx(0, 6, "d", "case d; inlay 3 in zir; crown 5 in met;"), event(0, "scan", []int{6}, "u", "d"), event(0, "lot", []int{6, 6}, "m", "met"), event(0, "lot", []int{6, 99999}, "n", "met"),
		event(0, "make", []int{6, 2}, "o", "d", "u", "m"), event(0, "ship", []int{6}, "o"))
}

func TestAccepts(t *testing.T) {
	for text, wanted := range map[string]api.Errno{
		"rx e 100000 " + printed: api.ErrRange, "rx r 100000 " + printed: api.ErrRange, "rx e 99999 " + printed: api.OK, "rx e 6 " + printed: api.OK, "rx e 5 " + printed: api.ErrState, "rx r 5 " + printed: api.ErrState, "rx r 6 " + printed: api.ErrTwice, "rx s 6 " + printed: api.OK,
		"scan s r 100000": api.ErrRange, "scan s r 5": api.ErrState, "scan s r 6": api.ErrTwice, "scan s x 6": api.ErrTwice, "scan x s 6": api.ErrUnknown, "scan x r 6": api.OK, "scan r r 6": api.OK, "scan d d 7": api.OK,
		"lot z zir 100000 1": api.ErrRange, "lot z zir 5 1": api.ErrState, "lot z zir 6 1": api.ErrTwice, "lot x zir 6 5": api.ErrRange, "lot x zir 6 6": api.OK, "lot x zir 6 99999": api.OK, "lot x zir 6 100000": api.ErrRange, "lot s unknown 7 8": api.OK, "lot x x 99999 99999": api.OK,
		"make p x x x 100000 1": api.ErrRange, "make p x x x 5 1": api.ErrState, "make p x x x 6 1": api.ErrTwice, "make x x s y 6 1": api.ErrUnknown, "make x r x y 6 1": api.ErrUnknown, "make x r s x 6 1": api.ErrUnknown, "make x s s y 6 1": api.ErrUnknown, "make x r r y 6 1": api.ErrUnknown, "make x r s r 6 1": api.ErrUnknown, "make x r s zir 6 1": api.ErrUnknown,
		"make x r u m 100 0": api.ErrRange, "make x r u m 100 3": api.ErrRange, "make x r u m 100 999999999": api.ErrRange, "make x r u m 100 1": api.ErrConflict, "make x r s m 100 1": api.ErrKind, "make x r s y 100 1": api.ErrOver, "make x r s y 99 1": api.ErrState, "make x r s z 9 1": api.ErrState, "make x r s z 10 1": api.ErrOver,
		"make x r s m 6 2": api.OK, "make x r s n 6 2": api.OK, "make x r t n 99999 2": api.OK, "make x r s m 7 2": api.ErrOver, "make x d u z 6 1": api.OK, "make x d u n 6 2": api.ErrState, "make s d u z 6 1": api.OK, "make x d s z 6 1": api.ErrConflict, "make x d u n 6 1": api.ErrKind,
		"remake p x x x 100000": api.ErrRange, "remake p x x x 5": api.ErrState, "remake q q s y 6": api.ErrTwice, "remake x x s y 6": api.ErrUnknown, "remake x s s y 6": api.ErrUnknown, "remake x q q y 6": api.ErrUnknown, "remake x q s q 6": api.ErrUnknown,
		"remake x p u m 100": api.ErrState, "remake x q u m 100": api.ErrConflict, "remake x q s m 100": api.ErrKind, "remake x q s y 100": api.ErrOver, "remake x q s y 99": api.OK, "remake x q s z 9": api.OK, "remake x q s z 10": api.ErrOver, "remake x o u n 6": api.OK, "remake x o u m 6": api.OK, "remake x o s m 6": api.ErrConflict, "remake x o u m 7": api.ErrOver,
		"repair x x 100000": api.ErrRange, "repair x x 5": api.ErrState, "repair x y 6": api.ErrUnknown, "repair q x 6": api.ErrUnknown, "repair y q 6": api.ErrUnknown, "repair p m 100": api.ErrState, "repair q m 100": api.ErrKind, "repair q y 100": api.ErrOver, "repair q y 99": api.ErrTwice, "repair q z 9": api.OK, "repair q z 10": api.ErrOver, "repair o n 6": api.OK, "repair o m 6": api.ErrTwice, "repair o m 7": api.ErrOver, "repair o z 6": api.ErrKind,
		"ship x 100000": api.ErrRange, "ship x 5": api.ErrState, "ship x 6": api.ErrUnknown, "ship s 6": api.ErrUnknown, "ship p 6": api.ErrState, "ship q 6": api.OK, "ship o 6": api.ErrState,
		"void x 100000": api.ErrRange, "void x 5": api.ErrState, "void x 6": api.ErrUnknown, "void y 6": api.ErrUnknown, "void p 6": api.ErrState, "void q 6": api.OK, "void o 6": api.OK, "undo": api.OK,
	} {
		e := eventOf(text)
		same(t, text+" by the definition", refusal(more(), after(more(), e)[len(more())]), wanted)
		accepts(t, more(), e, wanted)
	}
}

// eventOf returns the event, but for its Number, with the body that a text is but for it.
func eventOf(text string) api.Event {
	words := strings.Split(text, " ")
	kind := words[0]
	n := len(letters(kind))
	e := api.Event{Kind: kind, Names: words[1 : 1+n]}
	for i, word := range words[1+n:] {
		if kind == "rx" && i == 1 {
			e.Text = strings.Join(words[1+n+i:], " ")
			break
		}
		var v int
		fmt.Sscan(word, &v)
		e.Values = append(e.Values, v)
	}
	return e
}

// TestVoidParts: an item may be made again only when all of its parts are void.
func TestVoidParts(t *testing.T) {
	again := event(0, "make", []int{9, 1}, "n", "r", "s", "z")
	accepts(t, chapter(7), again, api.ErrState)
	l := after(chapter(7), event(0, "void", []int{5}, "q"))
	accepts(t, l, again, api.OK)
	accepts(t, l, event(0, "remake", []int{5}, "n", "q", "s", "z"), api.ErrState)
	accepts(t, l, event(0, "repair", []int{5}, "q", "z"), api.ErrState)
	accepts(t, l, event(0, "ship", []int{5}, "q"), api.ErrState)
	accepts(t, after(l, again), event(0, "make", []int{9, 1}, "o", "r", "s", "z"), api.ErrState)
	shipped := after(chapter(7), event(0, "ship", []int{5}, "q"))
	accepts(t, shipped, again, api.ErrState)
	accepts(t, shipped, event(0, "repair", []int{5}, "q", "z"), api.OK)
	accepts(t, after(shipped, event(0, "repair", []int{5}, "q", "z")), event(0, "ship", []int{5}, "q"), api.ErrState)
	accepts(t, shipped, event(0, "remake", []int{5}, "n", "q", "s", "z"), api.OK)
	accepts(t, shipped, event(0, "void", []int{5}, "q"), api.OK)
}

// TestManyThings: of each sort there may be 64.
func TestManyThings(t *testing.T) {
	l := chapter(1)
	for i := range 64 {
		if i > 0 {
			l = append(l, rx(0, 1, numbered("r", i), printed))
		}
		l = append(l, event(0, "scan", []int{1}, numbered("s", i), "r"), event(0, "lot", []int{1, 9}, numbered("l", i), "zir"), event(0, "make", []int{1, 1}, numbered("p", i), "r", "s0", "l0"))
		if i < 63 {
			l = append(l, event(0, "void", []int{1}, numbered("p", i)))
		}
	}
	l = after(l)
	for text, wanted := range map[string]api.Errno{
		"rx x 1 " + printed: api.ErrMany, "rx r 1 " + printed: api.ErrTwice, "scan x r 1": api.ErrMany, "scan x x 1": api.ErrUnknown, "scan s63 x 1": api.ErrTwice, "lot x y 1 0": api.ErrMany, "lot l63 y 1 0": api.ErrTwice,
		"make x r1 s0 l0 1 9": api.ErrMany, "make x r1 x l0 1 9": api.ErrUnknown, "make p0 r1 x l0 1 9": api.ErrTwice, "remake x p0 s0 l0 99": api.ErrMany, "remake x p63 s0 x 99": api.ErrUnknown, "remake x p63 s0 l0 2": api.ErrMany,
		"repair p63 l1 1": api.OK, "ship p63 1": api.OK, "void p63 1": api.OK, "undo": api.OK,
	} {
		accepts(t, l, eventOf(text), wanted)
	}
	for i, text := range map[int]string{0: "rx x 1 " + printed, 1: "scan x r 1", 2: "lot x y 1 1", 3: "make x r s0 l0 1 1"} {
		// Without the last one of the sort there may be one more.
		less := append([]api.Event{}, l[:len(l)-4+i]...)
		accepts(t, after(less, l[len(l)-4+i+1:]...), eventOf(text), api.OK)
	}
}

func TestManyEvents(t *testing.T) {
	l := chapter(1)
	for len(l) < 1000 {
		l = append(l, undo(0), rx(0, len(l)/2, "r", printed))
	}
	l = after(l[:1000])
	accepts(t, l[:999], l[999], api.OK)
	for e, wanted := range map[int]api.Errno{1: api.ErrMany, 1000: api.ErrMany, 1001: api.ErrRange, 0: api.ErrRange} {
		same(t, "one more event", record.Accepts(l, undo(e)), wanted)
	}
	same(t, "one more of no kind", record.Accepts(l, api.Event{Number: 1000}), api.ErrKind)
	r, at, e := record.Replay(append(l, undo(1001)))
	refused(t, "Replay of 1001 events", r, e, api.ErrMany)
	same(t, "the place", at, 0)
	r, at, e = record.Replay(make([]api.Event, 1001))
	refused(t, "Replay of 1001 faulty events", r, e, api.ErrMany)
	same(t, "the place", at, 0)
	same(t, "Accepts after 1001 events", record.Accepts(make([]api.Event, 1001), api.Event{}), api.ErrMany)
}

// TestRandomEvents compares errors and registers with the definitions.
func TestRandomEvents(t *testing.T) {
	r := dice()
	counts := map[string]int{}
	for range 300 {
		var l []api.Event
		for range 80 {
			e := randomEvent(r, len(l)+1, shelfOf(l))
			wanted := refusal(l, e)
			same(t, body(e), record.Accepts(l, e), wanted)
			counts[fmt.Sprint(e.Kind, " ", wanted)]++
			if wanted == api.OK {
				l = append(l, e)
			}
		}
		got, at, e := record.Replay(l)
		same(t, "Replay", got, shelfOf(l).register())
		same(t, "the error", e, api.OK)
		same(t, "the place", at, 0)
	}
	for _, kind := range []string{"rx 0", "scan 0", "lot 0", "make 0", "remake 0", "repair 0", "ship 0", "void 0", "undo 0", "undo 12", "lot 3", "lot 9", "scan 10", "make 3", "make 29", "make 13", "make 20", "make 19", "remake 19", "remake 29", "remake 13", "remake 20", "repair 19", "repair 13", "repair 20", "repair 9", "ship 19", "void 19"} {
		if counts[kind] < 5 {
			t.Errorf("%s: only %d times", kind, counts[kind])
		}
	}
}

// TestMemoryOfRegisters: a register shares no memory with the events, and the events stay as they are.
func TestMemoryOfRegisters(t *testing.T) {
	l := after(chapter(7), event(0, "repair", []int{5}, "q", "z"))
	r, _, _ := record.Replay(l)
	for _, p := range r.Parts {
		for i := range p.Lots {
			p.Lots[i] = "changed"
		}
	}
	r.Rxs[0].Script.Items[1].Teeth[0] = 99
	same(t, "the events", l, after(chapter(7), event(0, "repair", []int{5}, "q", "z")))
	got, _, _ := record.Replay(l)
	same(t, "the register", got, shelfOf(l).register())
	for i := range l {
		for k := range l[i].Names {
			l[i].Names[k] = "changed"
		}
	}
	same(t, "the register", got, shelfOf(after(chapter(7), event(0, "repair", []int{5}, "q", "z"))).register())
}
