package record_test

import (
	"cmp"
	"fmt"
	"math/rand/v2"
	"slices"
	"strings"
	"testing"

	"cusp/api"
	"cusp/record"
)

// P10.4: CheckNotes, Gather, Lacking and Fold.

func note(desk string, number int, line string) record.Note {
	return record.Note{Desk: desk, Number: number, Line: line}
}

// desks returns the notes of the chapter.
func desks() []record.Note {
	return []record.Note{note("a", 1, "scan s r 2"), note("b", 1, "rx r 1 "+printed), note("b", 2, "lot z zir 2 9")}
}

// noted reports another error of notes, by Gather, Lacking and Fold, too.
func noted(t *testing.T, what string, l []record.Note, wanted api.Errno) {
	t.Helper()
	same(t, what, record.CheckNotes(l), wanted)
	if wanted == api.OK {
		same(t, what+", gathered", fine[[]record.Note](t)(record.Gather(l, nil)), l)
		return
	}
	bad := []record.Mark{{}}
	got, e := record.Gather(l, make([]record.Note, 1))
	refused(t, what+", gathered", got, e, wanted)
	got, e = record.Gather(desks(), l)
	refused(t, what+", gathered", got, e, wanted)
	got, e = record.Lacking(l, bad)
	refused(t, what+", lacking", got, e, wanted)
	events, aside, e := record.Fold(l)
	refused(t, what+", folded", events, e, wanted)
	refused(t, what+", folded", aside, e, wanted)
}

func TestCheckNotes(t *testing.T) {
	noted(t, "no notes", nil, api.OK)
	noted(t, "notes", desks(), api.OK)
	for _, name := range badNames() {
		noted(t, "a desk", []record.Note{note(name, 1, "void p 1")}, api.ErrName)
	}
	noted(t, "a long desk", []record.Note{note(longName, 1, "void p 1")}, api.OK)
	for number, wanted := range map[int]api.Errno{1: api.OK, 1000: api.OK, 0: api.ErrRange, 1001: api.ErrRange, -1: api.ErrRange, least: api.ErrRange, greatest: api.ErrRange} {
		noted(t, "a number", []record.Note{note("a", number, "void p 1")}, wanted)
	}
	var many []record.Note
	for n := 1; n <= 1000; n++ {
		many = append(many, note("a", n, "void p 1"))
	}
	noted(t, "1000 notes", many, api.OK)
	noted(t, "1001 notes", append(many, note("b", 1, "void p 1")), api.ErrMany)
	noted(t, "1001 faulty notes", make([]record.Note, 1001), api.ErrMany)
	// Of one note the errors come one after another.
	noted(t, "a faulty note", []record.Note{note("", 0, "")}, api.ErrName)
	noted(t, "a faulty note", []record.Note{note("a", 0, "")}, api.ErrRange)
	noted(t, "a faulty note", []record.Note{note("b", 1, "void p 1"), note("a", 1, "")}, api.ErrSyntax)
	noted(t, "a faulty note", []record.Note{note("b", 1, "void p 1"), note("a", 1, "void p 1"), note("", 1, "")}, api.ErrOrder)
}

// lines are texts with the form of lines of notes, though some of them are no events.
func lines() []string {
	return []string{
		"rx r 1 " + printed, "rx r 1 ", "rx r 1  ", "rx r 1 x\ny", "rx 1 999999999 x", "scan s r 0", "lot z zir 2 9", "lot 1 - 999999999 0", "make p r s z 3 1", "remake q p t y 5", "repair q z 1", "ship p 1", "void p 1", "void \n 1", "void \xff 0", "void undo 1", "void " + strings.Repeat("x", 5000) + " 1", "ship ship 1",
	}
}

// noLines are texts without the form of lines of notes; an undo has that of a line of the console.
func noLines() []string {
	return []string{
		"", " ", "undo ", "undo x", "undo 1", "Undo", "x", "note a 1", "part p", "open", " void p 1", "void", "void ", "void p", "void p ", "void p 1 ", "void p 1 2", "void p q 1", "void  p 1", "void p  1", "void  1", "void p 01", "void p -1", "void p 1000000000", "void p 0000000001", "void p x", "void p 1x", "void p +1", "void p 1\n", "void\tp 1",
		"rx", "rx r", "rx r 1", "rx r ", "rx  1 x", "rx r  x", "rx r x x", "rx r 01 " + printed, "rx 1 " + printed, "scan s 1", "scan s r", "scan s r 1 1", "lot z zir 1", "lot z 1 2", "lot z zir 1 2 3", "make p r s z 1", "make p r s 1 1 1 1", "make p r s z 1 1 1", "remake q p t 1", "remake q p t y 1 1", "repair q 1", "ship p", "1 void p 1", "voidp 1", "VOID p 1",
	}
}

func TestLinesOfNotes(t *testing.T) {
	for _, line := range lines() {
		noted(t, "the line "+short(line), []record.Note{note("a", 1, line)}, api.OK)
	}
	for _, line := range append(noLines(), "undo") {
		noted(t, "the line "+short(line), []record.Note{note("a", 1, line)}, api.ErrSyntax)
	}
}

func TestOrderOfNotes(t *testing.T) {
	for _, row := range []struct {
		a, b record.Note
		e    api.Errno
	}{
		{note("a", 1, "void p 1"), note("a", 2, "void p 1"), api.OK}, {note("a", 1, "void p 1"), note("a", 1, "void p 1"), api.ErrOrder}, {note("a", 2, "void p 1"), note("a", 1, "void p 1"), api.ErrOrder}, {note("a", 1, "void p 1"), note("a", 1000, "void p 1"), api.OK},
		{note("a", 9, "void p 9"), note("b", 1, "void p 1"), api.OK}, {note("b", 1, "void p 1"), note("a", 2, "void p 1"), api.ErrOrder}, {note("B", 2, "void p 1"), note("a", 1, "void p 0"), api.OK}, {note("a", 1, "void p 1"), note("A", 2, "void p 1"), api.ErrOrder}, {note("a", 2, "void p 1"), note("a_", 1, "void p 0"), api.OK},
		{note("a", 1, "void p 2"), note("a", 2, "void p 1"), api.ErrOrder}, {note("a", 1, "void p 10"), note("a", 2, "void p 9"), api.ErrOrder}, {note("a", 1, "lot z zir 2 9"), note("a", 2, "lot z zir 2 1"), api.OK}, {note("a", 1, "lot z zir 3 9"), note("a", 2, "lot z zir 2 99"), api.ErrOrder}, {note("a", 1, "rx r 5 x"), note("a", 2, "make p r s z 4 9"), api.ErrOrder}, {note("a", 1, "rx r 5 x"), note("a", 2, "make p r s z 5 1"), api.OK}, {note("a", 1, "void p 999999999"), note("a", 2, "void p 999999999"), api.OK},
	} {
		noted(t, fmt.Sprint(row.a, row.b), []record.Note{row.a, row.b}, row.e)
	}
}

func TestGather(t *testing.T) {
	gather := func(a, b, wanted []record.Note) {
		t.Helper()
		same(t, "Gather", fine[[]record.Note](t)(record.Gather(a, b)), wanted)
		same(t, "Gather the other way", fine[[]record.Note](t)(record.Gather(b, a)), wanted)
	}
	gather(nil, nil, nil)
	gather(desks(), desks(), desks())
	gather(desks()[1:], desks()[:2], desks())
	gather(desks()[:1], desks()[2:], []record.Note{desks()[0], desks()[2]})
	l := []record.Note{note("a", 1, "void p 1"), note("a", 2, "void p 5"), note("a", 7, "void p 5"), note("b", 1, "void p 1")}
	gather([]record.Note{l[0], l[2]}, []record.Note{l[1], l[3]}, l)
	clash := func(a, b []record.Note, wanted api.Errno) {
		t.Helper()
		for _, pair := range [][2][]record.Note{{a, b}, {b, a}} {
			got, e := record.Gather(pair[0], pair[1])
			refused(t, "Gather", got, e, wanted)
		}
	}
	// Lines are compared as they are, although no event comes of either.
	clash([]record.Note{note("a", 1, "rx r 1 ")}, []record.Note{note("a", 1, "rx r 1  ")}, api.ErrConflict)
	clash([]record.Note{note("a", 1, "void p 1")}, []record.Note{note("a", 1, "void q 1")}, api.ErrConflict)
	clash([]record.Note{note("a", 1, "void p 5")}, []record.Note{note("a", 2, "void p 4")}, api.ErrConflict)
	clash([]record.Note{note("a", 1, "void p 1"), note("a", 3, "void p 3")}, []record.Note{note("a", 2, "void p 4")}, api.ErrConflict)
	gather([]record.Note{note("a", 1, "void p 5")}, []record.Note{note("b", 2, "void p 4")}, []record.Note{note("a", 1, "void p 5"), note("b", 2, "void p 4")})
}

func TestGatherOfManyNotes(t *testing.T) {
	var a, b []record.Note
	for n := 1; n <= 1000; n++ {
		a, b = append(a, note("a", n, "void p 1")), append(b, note("b", n, "void p 1"))
	}
	same(t, "1000 notes", len(fine[[]record.Note](t)(record.Gather(a[:400], b[:600]))), 1000)
	same(t, "the same 1000 notes", fine[[]record.Note](t)(record.Gather(a, a)), a)
	got, e := record.Gather(a, b[:1])
	refused(t, "1001 notes", got, e, api.ErrMany)
	// Different notes come before too many, and these before days that descend.
	other := append(slices.Clone(b[:600]), note("c", 1, "void p 1"))
	got, e = record.Gather(append(slices.Clone(a[:600]), note("c", 1, "void q 1")), other)
	refused(t, "too many with different ones", got, e, api.ErrConflict)
	got, e = record.Gather(append([]record.Note{note("A", 1, "void p 1")}, a[1:]...), []record.Note{note("A", 1, "void q 1"), b[0]})
	refused(t, "too many of which the first ones are different", got, e, api.ErrConflict)
	got, e = record.Gather(append(slices.Clone(a[:600]), note("c", 2, "void p 0")), other)
	refused(t, "too many with other days", got, e, api.ErrMany)
	got, e = record.Gather(append(slices.Clone(a[:398]), note("c", 2, "void p 0")), other)
	refused(t, "1000 with other days", got, e, api.ErrConflict)
}

func TestMarks(t *testing.T) {
	mark := func(desk string, number int) record.Mark { return record.Mark{Desk: desk, Number: number} }
	var many []record.Mark
	for n := range 1001 {
		many = append(many, mark(fmt.Sprintf("d%04d", n), n))
	}
	check := func(v []record.Mark, wanted api.Errno) {
		t.Helper()
		got, e := record.Lacking(desks(), v)
		if wanted != api.OK {
			refused(t, "marks with an error", got, e, wanted)
		} else {
			same(t, "marks without an error", e, api.OK)
		}
	}
	check(many[:1000], api.OK)
	check(many, api.ErrMany)
	check(make([]record.Mark, 1001), api.ErrMany)
	for _, name := range badNames() {
		check([]record.Mark{mark(name, -1)}, api.ErrName)
	}
	for number, wanted := range map[int]api.Errno{0: api.OK, 1000: api.OK, 1001: api.ErrRange, -1: api.ErrRange, least: api.ErrRange, greatest: api.ErrRange} {
		check([]record.Mark{mark("x", number)}, wanted)
	}
	check([]record.Mark{mark("x", 1), mark("x", 2)}, api.ErrOrder)
	check([]record.Mark{mark("x", 1), mark("a", 2)}, api.ErrOrder)
	check([]record.Mark{mark("x", 1), mark("a", -1)}, api.ErrRange)
	check([]record.Mark{mark("x", 1), mark("a", 1), mark("", 0)}, api.ErrOrder)
	check([]record.Mark{mark("B", 2), mark("a", 1), mark("a_", 0)}, api.OK)
}

func TestLacking(t *testing.T) {
	lacks := func(v []record.Mark, wanted ...record.Note) {
		t.Helper()
		same(t, fmt.Sprint("what is lacking to ", v), fine[[]record.Note](t)(record.Lacking(desks(), v)), wanted)
	}
	l := desks()
	lacks(nil, l...)
	lacks([]record.Mark{{Desk: "b", Number: 1}}, l[0], l[2])
	lacks([]record.Mark{{Desk: "b", Number: 2}}, l[0])
	lacks([]record.Mark{{Desk: "b", Number: 1000}}, l[0])
	lacks([]record.Mark{{Desk: "a", Number: 0}, {Desk: "b", Number: 0}}, l...)
	lacks([]record.Mark{{Desk: "a", Number: 1}, {Desk: "b", Number: 2}})
	lacks([]record.Mark{{Desk: "A", Number: 9}, {Desk: "a", Number: 1}, {Desk: "c", Number: 9}}, l[1], l[2])
	same(t, "nothing", fine[[]record.Note](t)(record.Lacking(nil, nil)), nil)
}

// folded reports another fold.
func folded(t *testing.T, what string, l []record.Note, events []api.Event, aside ...record.Mark) {
	t.Helper()
	got, rest, e := record.Fold(l)
	same(t, "the events of "+what, got, events)
	same(t, "what is set aside of "+what, rest, aside)
	same(t, "the error of "+what, e, api.OK)
}

func TestFold(t *testing.T) {
	folded(t, "no notes", nil, nil)
	folded(t, "the notes of the chapter", desks(), chapter(3))
	folded(t, "a note without its prescription", desks()[:1], nil, record.Mark{Desk: "a", Number: 1})
	// On one day the desk a comes before the desk b, which has the prescription.
	l := []record.Note{note("a", 1, "scan s r 1"), note("a", 2, "scan t r 2"), note("b", 1, "rx r 1 "+printed), note("b", 2, "lot z zir 2 9"), note("c", 1, "void p 2"), note("c", 5, "scan u r 2"), note("d", 1, "lot y zir 1 9")}
	folded(t, "notes", l, []api.Event{rx(1, 1, "r", printed), event(2, "lot", []int{1, 9}, "y", "zir"), event(3, "scan", []int{2}, "t", "r"), event(4, "lot", []int{2, 9}, "z", "zir"), event(5, "scan", []int{2}, "u", "r")}, record.Mark{Desk: "a", Number: 1}, record.Mark{Desk: "c", Number: 1})
	// Days are compared as numbers.
	l = []record.Note{note("a", 1, "scan s r 10"), note("b", 1, "rx r 9 "+printed)}
	folded(t, "days", l, []api.Event{rx(1, 9, "r", printed), event(2, "scan", []int{10}, "s", "r")})
	// What is no event, or is above a limit, is set aside.
	var faulty []record.Note
	for i, text := range append(lines(), "rx r 1 x", "rx r 1 case c;", "lot l 1 1 1", "lot l m 100000 100000") {
		faulty = append(faulty, note(numbered("d", 100+i), 1, text))
	}
	events, aside, _ := record.Fold(faulty)
	same(t, "the events of lines", events, []api.Event{rx(1, 1, "r", printed), event(2, "lot", []int{2, 9}, "z", "zir")})
	same(t, "those set aside", len(aside), len(faulty)-2)
	same(t, "the last one", aside[len(aside)-1], record.Mark{Desk: "d107", Number: 1})
}

func TestFoldOfManyNotes(t *testing.T) {
	var l []record.Note
	for n := 1; n <= 1000; n++ {
		l = append(l, note("a", n, fmt.Sprintf("lot l%d m %d 99999", n, n)))
	}
	events, aside, e := record.Fold(l)
	same(t, "its error", e, api.OK)
	same(t, "the events", len(events), 64)
	same(t, "the others", len(aside), 936)
	same(t, "the last one", aside[935], record.Mark{Desk: "a", Number: 1000})
}

// randomNotes returns notes of some desks with lines of accepted events, of which each one is at one desk; some are changed.
func randomNotes(r *rand.Rand, n int) []record.Note {
	var l []record.Note
	numbers := map[string]int{}
	for _, e := range counting(randomEvents(r, n)) {
		desk := one(r, "a", "b", "B", "c_1")
		numbers[desk] += between(r, 1, 2)
		if r.IntN(10) == 0 {
			e.Names = slices.Clone(e.Names)
			e.Names[0] = "other"
		}
		l = append(l, note(desk, numbers[desk], line(e)))
	}
	slices.SortFunc(l, byDesk)
	return l
}

func byDesk(x, y record.Note) int {
	return cmp.Or(cmp.Compare(x.Desk, y.Desk), cmp.Compare(x.Number, y.Number))
}

// some returns those notes that are drawn.
func someOf(r *rand.Rand, l []record.Note) []record.Note {
	var out []record.Note
	for _, n := range l {
		if r.IntN(2) == 0 {
			out = append(out, n)
		}
	}
	return out
}

// TestRandomNotes compares folds, gathered and lacking notes with the definitions.
func TestRandomNotes(t *testing.T) {
	r := dice()
	kept, left := 0, 0
	for range 300 {
		l := randomNotes(r, 60)
		noted(t, "random notes", l, api.OK)
		foldedLike(t, l)
		events, aside, _ := record.Fold(l)
		kept, left = kept+len(events), left+len(aside)
		a, b := someOf(r, l), someOf(r, l)
		var both []record.Note
		for _, n := range l {
			if slices.Contains(a, n) || slices.Contains(b, n) {
				both = append(both, n)
			}
		}
		same(t, "Gather", fine[[]record.Note](t)(record.Gather(a, b)), both)
		m := record.Mark{Desk: one(r, "a", "b", "c"), Number: r.IntN(20)}
		lacking := slices.DeleteFunc(slices.Clone(l), func(n record.Note) bool { return n.Desk == m.Desk && n.Number <= m.Number })
		same(t, "Lacking", fine[[]record.Note](t)(record.Lacking(l, []record.Mark{m})), lacking)
	}
	if kept < 1000 || left < 300 {
		t.Errorf("%d notes in folds, %d set aside", kept, left)
	}
}

// foldedLike compares a fold with the definition, day by day.
func foldedLike(t *testing.T, l []record.Note) {
	t.Helper()
	var events []api.Event
	var aside []record.Mark
	for day := range 200 {
		for _, n := range l {
			e := eventOf(n.Line)
			if e.Values[0] != day {
				continue
			}
			e.Number = len(events) + 1
			if refusal(events, e) == api.OK {
				events = append(events, e)
			} else {
				aside = append(aside, record.Mark{Desk: n.Desk, Number: n.Number})
			}
		}
	}
	folded(t, "random notes", l, events, aside...)
}

// TestMemoryOfNotes: results have memory of their own, and arguments stay as they are.
func TestMemoryOfNotes(t *testing.T) {
	l := desks()
	for _, got := range [][]record.Note{fine[[]record.Note](t)(record.Gather(l, nil)), fine[[]record.Note](t)(record.Gather(nil, l)), fine[[]record.Note](t)(record.Lacking(l, nil))} {
		got[0].Desk = "changed"
		_ = append(got[:1], note("changed", 1, ""))
		same(t, "the notes", l, desks())
	}
	long := append(desks(), note("c", 1, "void p 1"))
	fine[[]record.Note](t)(record.Gather(long[:1], long[1:]))
	same(t, "the notes behind", long[1:3], desks()[1:])
}
