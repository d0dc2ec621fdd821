package record_test

import (
	"math/rand/v2"
	"slices"
	"strings"
	"testing"

	"cusp/api"
	"cusp/record"
)

// P10.7: what follows from the other promises.

// TestScriptsAreReadAsPrinted: also with other blanks and line feeds between their words.
func TestScriptsAreReadAsPrinted(t *testing.T) {
	r := dice()
	for range 3000 {
		s := randomScript(r, between(r, 1, 32), "zir", "met", "in", "shade", longName)
		text := fine[string](t)(record.PrintScript(s))
		read(t, text, s)
		same(t, "the event with it", record.CheckEvent(rx(1, 1, "r", text)), api.OK)
		loose := ""
		for _, word := range tokens(text) {
			loose += word + one(r, " ", "\n", "  ", " \n ")
		}
		read(t, loose, s)
		read(t, strings.ReplaceAll(text, "; ", ";"), s)
	}
}

// TestTextsThatAreRead: what is printed of them is read as the same script, and is printed so again.
func TestTextsThatAreRead(t *testing.T) {
	r := dice()
	found := 0
	for range 20000 {
		text := fine[string](t)(record.PrintScript(randomScript(r, 3, "zir", "met")))
		for range r.IntN(3) {
			at := r.IntN(len(text) + 1)
			text = text[:at] + one(r, " ", "1", "-", ";", "a", "shade", "") + text[min(len(text), at+r.IntN(2)):]
		}
		s, at, e := record.ParseScript(text)
		same(t, "the place in "+text, at > 0, e == api.ErrSyntax)
		if e == api.OK {
			found++
			again := fine[string](t)(record.PrintScript(s))
			read(t, again, s)
			same(t, "the event with "+text, record.CheckEvent(rx(1, 1, "r", text)) == api.OK, again == text)
		}
	}
	if found < 5000 {
		t.Errorf("only %d texts that are read", found)
	}
}

// TestLotsAndParts: each lot of a trace affects its part, and each affected part has it in its trace.
func TestLotsAndParts(t *testing.T) {
	r := dice()
	for range 300 {
		l := randomEvents(r, 120)
		register, _, _ := record.Replay(l)
		pairs := map[[2]string]bool{}
		for _, p := range register.Parts {
			trail := fine[record.Trail](t)(record.Trace(l, p.Name))
			for _, lot := range trail.Lots {
				pairs[[2]string{p.Name, lot}] = true
			}
		}
		for _, lot := range register.Lots {
			for _, part := range fine[[]string](t)(record.Affected(l, lot.Name)) {
				same(t, lot.Name+" in the trace of "+part, pairs[[2]string{part, lot.Name}], true)
				delete(pairs, [2]string{part, lot.Name})
			}
		}
		same(t, "lots of traces that do not affect", len(pairs), 0)
	}
}

// TestPartsThatReplace: they have all lots and scans of the others, and of each item at most one part is not void.
func TestPartsThatReplace(t *testing.T) {
	r := dice()
	found := 0
	for range 300 {
		l := randomEvents(r, 120)
		register, _, _ := record.Replay(l)
		used := map[record.Want]bool{}
		for _, p := range register.Parts {
			want := record.Want{Rx: p.Rx, Item: p.Item}
			if p.State != "void" {
				same(t, "a second part of an item", used[want], false)
				used[want] = true
			}
			if p.Old == "" {
				continue
			}
			found++
			trail, old := fine[record.Trail](t)(record.Trace(l, p.Name)), fine[record.Trail](t)(record.Trace(l, p.Old))
			same(t, "the parts", trail.Parts, append([]string{p.Name}, old.Parts...))
			same(t, "the scans", trail.Scans, append([]string{p.Scan}, old.Scans...))
			for _, lot := range append(old.Lots, p.Lots...) {
				same(t, "the lot "+lot, slices.Contains(trail.Lots, lot), true)
			}
		}
		for _, want := range fine[[]record.Want](t)(record.Open(l)) {
			same(t, "an open item with a part", used[want], false)
		}
	}
	if found < 100 {
		t.Errorf("only %d parts that replace others", found)
	}
}

// TestLastDays: no lot is used after its last day.
func TestLastDays(t *testing.T) {
	r := dice()
	uses := 0
	for range 300 {
		l := randomEvents(r, 120)
		register, _, _ := record.Replay(l)
		until := map[string]int{}
		for _, lot := range register.Lots {
			until[lot.Name] = lot.Until
		}
		for _, e := range counting(l) {
			if slices.Contains([]string{"make", "remake", "repair"}, e.Kind) {
				uses++
				lot := e.Names[len(e.Names)-1]
				same(t, "a use of "+lot, e.Values[0] <= until[lot], true)
			}
		}
	}
	if uses < 500 {
		t.Errorf("only %d uses", uses)
	}
}

// changedNotes returns notes of which one, perhaps, has another line.
func changedNotes(r *rand.Rand, l []record.Note) []record.Note {
	l = slices.Clone(l)
	if len(l) > 0 && r.IntN(6) == 0 {
		n := &l[r.IntN(len(l))]
		n.Line = strings.Replace(n.Line, " ", " other ", 1)
		if record.CheckNotes(l) != api.OK {
			n.Line = line(event(0, "void", eventOf(strings.Replace(n.Line, " other ", " ", 1)).Values[:1], "p"))
		}
	}
	return l
}

// TestGatherHasNoOrder: it is commutative, associative and idempotent wherever it has no error.
func TestGatherHasNoOrder(t *testing.T) {
	r := dice()
	counts := map[bool]int{}
	for range 500 {
		l := randomNotes(r, 40)
		a, b, c := changedNotes(r, someOf(r, l)), changedNotes(r, someOf(r, l)), changedNotes(r, someOf(r, l))
		ab, e := record.Gather(a, b)
		ba, other := record.Gather(b, a)
		same(t, "the other way", ba, ab)
		same(t, "the error of the other way", other, e)
		same(t, "the same twice", fine[[]record.Note](t)(record.Gather(a, a)), a)
		bc, later := record.Gather(b, c)
		if e == api.OK && later == api.OK {
			one, e := record.Gather(ab, c)
			two, other := record.Gather(a, bc)
			same(t, "three of them", one, two)
			same(t, "the error of three", e, other)
			counts[e == api.OK]++
		}
	}
	if counts[true] < 50 || counts[false] < 10 {
		t.Errorf("%d times gathered, %d times not", counts[true], counts[false])
	}
}

// TestFoldHasNoOrder: notes may arrive one by one in any order, and more than once; so may those that are lacking.
func TestFoldHasNoOrder(t *testing.T) {
	r := dice()
	for range 200 {
		l := randomNotes(r, 40)
		events, aside, _ := record.Fold(l)
		var arrived []record.Note
		for _, i := range append(r.Perm(len(l)), r.Perm(len(l))...) {
			arrived = fine[[]record.Note](t)(record.Gather(arrived, l[i:i+1]))
		}
		folded(t, "notes that arrived", arrived, events, aside...)
		// A desk that has the first ones of each desk gets what it lacks.
		var has []record.Note
		var marks []record.Mark
		for _, desk := range []string{"B", "a", "b", "c_1"} {
			m := record.Mark{Desk: desk, Number: r.IntN(8)}
			marks = append(marks, m)
			for _, n := range l {
				if n.Desk == desk && n.Number <= m.Number {
					has = append(has, n)
				}
			}
		}
		lacking := fine[[]record.Note](t)(record.Lacking(l, marks))
		same(t, "some more", len(lacking)+len(has), len(l))
		folded(t, "notes that were lacking", fine[[]record.Note](t)(record.Gather(has, lacking)), events, aside...)
	}
}

// TestFoldsAreAccepted: the events of a fold make a register, and a log that is recovered.
func TestFoldsAreAccepted(t *testing.T) {
	r := dice()
	for range 200 {
		events, _, _ := record.Fold(randomNotes(r, 60))
		_, at, e := record.Replay(events)
		same(t, "the error of a fold", e, api.OK)
		same(t, "its place", at, 0)
		same(t, "its log", loaded(t, logOf(events)).Log(), logOf(events))
	}
}

// TestChangedLogs: a log of which a byte is changed is not recovered as a whole, but for line feeds.
func TestChangedLogs(t *testing.T) {
	log := logOf(after(remade(), undo(0), event(0, "ship", []int{5}, "B"), event(0, "void", []int{6}, "B"), undo(0)))
	_, _, e := record.Recover(log)
	same(t, "the log", e, api.OK)
	r := dice()
	for at := range len(log) {
		for range 40 {
			b := one(r, byte(r.IntN(256)), byte(between(r, '0', '9')), log[at]^1<<r.IntN(8))
			changed := log[:at] + string([]byte{b}) + log[at+1:]
			if changed == log || b == '\n' || log[at] == '\n' {
				continue
			}
			l, length, e := record.Recover(changed)
			before := strings.LastIndex(log[:at], "\n") + 1
			same(t, "the events before the change", len(l), strings.Count(log[:at], "\n"))
			same(t, "their length", length, before)
			same(t, "an error", e == api.ErrSyntax || e == api.ErrCheck, true)
		}
	}
}

// TestUndoOfEverything leaves nothing, and of something what was there before.
func TestUndoOfEverything(t *testing.T) {
	r := dice()
	for range 100 {
		l := randomEvents(r, 60)
		s := sessionOf(t, l)
		count := len(counting(l))
		for n := range count {
			fine[string](t)(s.Do("undo"))
			got, _, e := record.Replay(s.Events())
			same(t, "the error of an undo", e, api.OK)
			before, _, _ := record.Replay(after(counting(l)[:count-n-1]))
			same(t, "the register before", got, before)
		}
		got, _, _ := record.Replay(s.Events())
		same(t, "the register after everything", got, record.Register{})
		does(t, s, "undo", "", api.ErrEmpty)
		does(t, s, "open", "none", api.OK)
	}
}

// TestAnyText: every function has a result for any text.
func TestAnyText(t *testing.T) {
	r := dice()
	s := sessionOf(t, chapter(7))
	for range 5000 {
		text := randomText(r, 60)
		_, at, e := record.ParseScript(text)
		same(t, "the place of a fault", at > 0 && at <= len(text)+1, e == api.ErrSyntax)
		l, length, e := record.Recover(text)
		same(t, "what is recovered", len(l) == 0 && length == 0 && (e != api.OK || text == ""), true)
		events, aside, e := record.Fold([]record.Note{note("a", 1, text)})
		same(t, "a note", len(events) == 0 && (e == api.ErrSyntax || len(aside) == 1), true)
		_, e = s.Do(text)
		same(t, "a line", e != api.OK, true)
		same(t, "an event", record.CheckEvent(api.Event{Number: r.IntN(3), Kind: text, Names: []string{text}, Values: []int{r.IntN(9)}, Text: text}) != api.OK, true)
	}
	same(t, "the events", s.Events(), chapter(7))
}
