package record_test

import (
	"fmt"
	"strings"
	"testing"

	"cusp/api"
	"cusp/record"
)

// P10.6: New, Load, Do, Events and Log.

// does reports another answer to a line, or another error; an error changes nothing.
func does(t *testing.T, s *record.Session, line, wanted string, e api.Errno) {
	t.Helper()
	log := s.Log()
	got, bad := s.Do(line)
	same(t, "the answer to "+short(line), got, wanted)
	same(t, "the error of "+short(line), bad, e)
	if isDone := strings.HasPrefix(wanted, "done"); !isDone {
		same(t, "the log after "+short(line), s.Log(), log)
	}
	same(t, "the log of the events", s.Log(), logOf(s.Events()))
}

// sessionOf returns a session with events.
func sessionOf(t *testing.T, l []api.Event) *record.Session {
	s := record.New()
	for i, e := range l {
		answer := fine[string](t)(s.Do(line(e)))
		same(t, "the answer to "+line(e), answer, fmt.Sprint("done ", i+1))
	}
	same(t, "the events", s.Events(), l)
	same(t, "the log", s.Log(), logOf(l))
	return s
}

func TestNew(t *testing.T) {
	s := record.New()
	same(t, "Events", s.Events(), nil)
	same(t, "Log", s.Log(), "")
	does(t, s, "open", "none", api.OK)
	does(t, s, "undo", "", api.ErrEmpty)
	does(t, s, "rx r 1 "+printed, "done 1", api.OK)
	same(t, "another session", record.New().Log(), "")
	var zero record.Session
	does(t, &zero, "open", "none", api.OK)
	does(t, &zero, "rx r 1 "+printed, "done 1", api.OK)
	var none *record.Session
	for _, line := range []string{"undo", "", "x", "open", strings.Repeat("x", 4097)} {
		got, e := none.Do(line)
		refused(t, "Do of no session", got, e, api.ErrState)
	}
	same(t, "Events of no session", none.Events(), nil)
	same(t, "Log of no session", none.Log(), "")
}

func TestQuestions(t *testing.T) {
	s := sessionOf(t, chapter(7))
	for line, answer := range map[string]string{"part q": "made r 1 t for p", "part p": "void r 1 s", "trace q": "y z", "trace p": "z", "affected z": "p q", "affected y": "q", "open": "r.2"} {
		does(t, s, line, answer, api.OK)
	}
	s = sessionOf(t, remade())
	for line, answer := range map[string]string{"part B": "made r 1 t for b", "part b": "void r 1 s for q", "trace B": "Z a y z", "trace b": "a y z", "affected z": "p q b B", "affected Z": "B"} {
		does(t, s, line, answer, api.OK)
	}
	s = sessionOf(t, more())
	for line, answer := range map[string]string{"part o": "shipped d 2 u", "open": "r.2 d.1", "affected n": "none", "affected m": "o"} {
		does(t, s, line, answer, api.OK)
	}
	does(t, sessionOf(t, chapter(1)), "open", "r.1 r.2", api.OK)
	s = sessionOf(t, after(nil, rx(1, 1, "r", "case c; crown 4 in x;"), event(0, "scan", []int{1}, "s", "r"), event(0, "lot", []int{1, 1}, "z", "x"), event(0, "make", []int{1, 1}, "p", "r", "s", "z")))
	does(t, s, "open", "none", api.OK)
	does(t, s, "ship p 1", "done 5", api.OK)
	does(t, s, "part p", "shipped r 1 s", api.OK)
}

func TestFaultyQuestions(t *testing.T) {
	s := sessionOf(t, chapter(7))
	for line, e := range map[string]api.Errno{
		"": api.ErrSyntax, " ": api.ErrKind, " open": api.ErrKind, "Open": api.ErrKind, "opened": api.ErrKind, "open\n": api.ErrKind, "tables": api.ErrKind, "part\tp": api.ErrKind, "8 undo": api.ErrKind, "parts p": api.ErrKind, "#": api.ErrKind, "\x00": api.ErrKind, "case c;": api.ErrKind,
		"open ": api.ErrSyntax, "open x": api.ErrSyntax, "part": api.ErrSyntax, "part ": api.ErrSyntax, "part  p": api.ErrSyntax, "part p ": api.ErrSyntax, "part p q": api.ErrSyntax, "trace": api.ErrSyntax, "trace ": api.ErrSyntax, "trace p q": api.ErrSyntax, "affected": api.ErrSyntax, "affected ": api.ErrSyntax, "affected z y": api.ErrSyntax,
		"part x": api.ErrUnknown, "part z": api.ErrUnknown, "part r": api.ErrUnknown, "part 1": api.ErrUnknown, "part p\n": api.ErrUnknown, "part \n": api.ErrUnknown, "trace x": api.ErrUnknown, "trace z": api.ErrUnknown, "trace -": api.ErrUnknown, "affected x": api.ErrUnknown, "affected p": api.ErrUnknown, "affected zir": api.ErrUnknown, "affected \xff": api.ErrUnknown,
		"part " + strings.Repeat("x", 4091): api.ErrUnknown, "part " + strings.Repeat("x", 4092): api.ErrLong, strings.Repeat("x", 4096): api.ErrKind, strings.Repeat("x", 4097): api.ErrLong, strings.Repeat(" ", 4097): api.ErrLong,
	} {
		does(t, s, line, "", e)
	}
}

func TestFaultyLines(t *testing.T) {
	s := sessionOf(t, chapter(7))
	for _, line := range noLines() {
		if word, _, _ := strings.Cut(line, " "); word == "undo" || letters(word) != "" {
			does(t, s, line, "", api.ErrSyntax)
		}
	}
	for line, e := range map[string]api.Errno{
		"undo ": api.ErrSyntax, "void 1 5": api.ErrName, "void \n 5": api.ErrName, "void p 5": api.ErrState, "void x 5": api.ErrUnknown, "void q 100000": api.ErrRange, "void q 4": api.ErrState, "void " + longName + "x 5": api.ErrName, "rx k 9 ": api.ErrForm, "rx k 9 x": api.ErrForm, "rx k 9  " + printed: api.ErrForm, "rx k 9 " + printed + " ": api.ErrForm, "rx 1 9 x": api.ErrName, "rx r 9 " + printed: api.ErrTwice,
		"lot z zir 5 9": api.ErrTwice, "lot x zir 5 4": api.ErrRange, "make x r s z 5 1": api.ErrState, "make x r s z 5 2": api.ErrKind, "scan x r 999999999": api.ErrRange,
	} {
		does(t, s, line, "", e)
	}
	does(t, s, "undo", "done 8", api.OK)
	does(t, s, "part q", "", api.ErrUnknown)
	does(t, s, "part p", "made r 1 s", api.OK)
	does(t, s, "ship p 5", "done 9", api.OK)
}

func TestManyLines(t *testing.T) {
	var l []api.Event
	for len(l) < 1000 {
		l = append(l, rx(0, 1, "r", printed), undo(0))
	}
	s := sessionOf(t, after(l))
	does(t, s, "undo", "", api.ErrMany)
	does(t, s, "rx r 1 "+printed, "", api.ErrMany)
	does(t, s, "rx 1 1 x", "", api.ErrMany)
	does(t, s, "undo ", "", api.ErrSyntax)
	does(t, s, "void p", "", api.ErrSyntax)
	does(t, s, "open", "none", api.OK)
	does(t, s, "", "", api.ErrSyntax)
}

// TestLongSessions: a session has no limit for the bytes of its log, as it has none for those of its events.
func TestLongSessions(t *testing.T) {
	var l []api.Event
	for len(l) < 1000 {
		l = append(l, longEvent(t, len(l)+1, 2400), undo(len(l)+2))
	}
	s := sessionOf(t, l)
	same(t, "a log above the limit", len(s.Log()) > 1000000, true)
	_, e := record.Load(s.Log())
	same(t, "Load of it", e, api.ErrLong)
}

// loaded returns the session with a log.
func loaded(t *testing.T, log string) *record.Session {
	t.Helper()
	s, e := record.Load(log)
	if e != api.OK || s == nil {
		t.Fatalf("Load of %s: error %d", short(log), e)
	}
	return s
}

func TestLoad(t *testing.T) {
	for n := range 8 {
		s := loaded(t, logOf(chapter(n)))
		same(t, "Events", s.Events(), chapter(n))
		same(t, "Log", s.Log(), logOf(chapter(n)))
	}
	s := loaded(t, logOf(chapter(7)))
	does(t, s, "part q", "made r 1 t for p", api.OK)
	does(t, s, "undo", "done 8", api.OK)
	does(t, s, "undo", "done 9", api.OK)
	does(t, s, "scan t r 4", "done 10", api.OK)
	// After a crash what was whole is there.
	log := logOf(chapter(7))
	for n := range len(log) {
		s := loaded(t, log[:n])
		same(t, "the events of a torn log", s.Events(), chapter(strings.Count(log[:n], "\n")))
	}
	for text, wanted := range map[string]api.Errno{
		"\n": api.ErrSyntax, "1#0000313\n": api.ErrCheck, logOf(chapter(2)[1:]): api.ErrOrder, log + "x\n": api.ErrSyntax, log + log: api.ErrOrder, strings.Repeat("x", 1000001): api.ErrLong,
		withSum("1 undo"): api.ErrEmpty, withSum("1 undo") + "x": api.ErrEmpty, withSum("1 undo") + "x\n": api.ErrSyntax, log + withSum("8 void p 5"): api.ErrState, log + withSum("8 lot k m 5 4"): api.ErrRange, log + withSum("8 lot k m 5 4") + "9": api.ErrRange,
	} {
		s, e := record.Load(text)
		same(t, "no session", s == nil, true)
		same(t, "Load of "+short(text), e, wanted)
	}
}

// TestRandomLines compares a session with Accepts.
func TestRandomLines(t *testing.T) {
	r := dice()
	for range 60 {
		s := record.New()
		var l []api.Event
		for range 80 {
			e := randomEvent(r, len(l)+1, shelfOf(l))
			wanted := refusal(l, e)
			if wanted != api.OK {
				does(t, s, line(e), "", wanted)
				continue
			}
			l = append(l, e)
			does(t, s, line(e), fmt.Sprint("done ", len(l)), api.OK)
			asked(t, s, l)
		}
		same(t, "Events", s.Events(), l)
		again := loaded(t, s.Log())
		same(t, "Events of the log", again.Events(), l)
		asked(t, again, l)
	}
}

// asked asks a session about all parts and lots.
func asked(t *testing.T, s *record.Session, l []api.Event) {
	t.Helper()
	shelf := shelfOf(l)
	for _, name := range shelf.order['P'] {
		p := shelf.parts[name]
		answer := fmt.Sprintf("%s %s %d %s", p.State, p.Rx, p.Item, p.Scan)
		if p.Old != "" {
			answer += " for " + p.Old
		}
		does(t, s, "part "+name, answer, api.OK)
		does(t, s, "trace "+name, strings.Join(shelf.trail(name).Lots, " "), api.OK)
	}
	for _, name := range shelf.order['L'] {
		parts := strings.Join(fine[[]string](t)(record.Affected(l, name)), " ")
		if parts == "" {
			parts = "none"
		}
		does(t, s, "affected "+name, parts, api.OK)
	}
	var open []string
	for _, w := range shelf.open() {
		open = append(open, fmt.Sprintf("%s.%d", w.Rx, w.Item))
	}
	if len(open) == 0 {
		open = []string{"none"}
	}
	does(t, s, "open", strings.Join(open, " "), api.OK)
}

// TestMemoryOfSessions: events are told in memory of their own.
func TestMemoryOfSessions(t *testing.T) {
	s := sessionOf(t, chapter(5))
	for _, e := range s.Events() {
		e.Names[0], e.Values[0] = "changed", 99
	}
	same(t, "the events", s.Events(), chapter(5))
	does(t, s, "part p", "made r 1 s", api.OK)
}

// TestCopiedSessions: they go on by themselves, also back to what both had.
func TestCopiedSessions(t *testing.T) {
	for n := 1; n <= 12; n++ {
		l := chapter(1)
		for i := range n {
			l = append(l, event(0, "lot", []int{2, 9}, numbered("l", i), "m"))
		}
		l = after(l)
		s := sessionOf(t, l)
		other := *s
		does(t, s, "undo", fmt.Sprint("done ", n+2), api.OK)
		does(t, s, "lot x m 2 9", fmt.Sprint("done ", n+3), api.OK)
		does(t, &other, "lot y m 3 9", fmt.Sprint("done ", n+2), api.OK)
		does(t, s, "lot z m 2 9", fmt.Sprint("done ", n+4), api.OK)
		does(t, &other, "undo", fmt.Sprint("done ", n+3), api.OK)
		last := "affected " + numbered("l", n-1)
		does(t, s, last, "", api.ErrUnknown)
		does(t, s, "affected x", "none", api.OK)
		does(t, s, "affected z", "none", api.OK)
		does(t, &other, last, "none", api.OK)
		does(t, &other, "affected x", "", api.ErrUnknown)
		third := *s
		does(t, s, "lot u m 2 9", fmt.Sprint("done ", n+5), api.OK)
		does(t, &third, "lot v m 2 9", fmt.Sprint("done ", n+5), api.OK)
		does(t, s, "affected u", "none", api.OK)
		does(t, s, "affected v", "", api.ErrUnknown)
		does(t, &third, "affected u", "", api.ErrUnknown)
		same(t, "the events", s.Events(), after(l, undo(0), event(0, "lot", []int{2, 9}, "x", "m"), event(0, "lot", []int{2, 9}, "z", "m"), event(0, "lot", []int{2, 9}, "u", "m")))
		same(t, "the other events", other.Events(), after(l, event(0, "lot", []int{3, 9}, "y", "m"), undo(0)))
	}
}
