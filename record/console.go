package record

import (
	"slices"
	"strconv"
	"strings"

	"cusp/api"
)

// Session is a console.
type Session struct{ history }

// New returns a session without events.
func New() *Session { return &Session{} }

// Load returns the session with a log.
func Load(log string) (*Session, api.Errno) {
	l, _, e := Recover(log)
	if e != api.OK && e != api.ErrTorn {
		return nil, e
	}
	h, _, e := historyOf(l)
	if e != api.OK {
		return nil, e
	}
	return &Session{h}, api.OK
}

// question is a question.
type question struct {
	words  int   // their number, with the first one
	about  thing // what the second word is the name of
	answer func(r Register, name string) []string
}

// questions returns the questions by their first words.
func questions() map[string]question {
	return map[string]question{
		"part":     {words: 2, about: aPart, answer: Register.tellPart},
		"trace":    {words: 2, about: aPart, answer: Register.tellTrace},
		"affected": {words: 2, about: aLot, answer: Register.affected},
		"open":     {words: 1, answer: Register.tellOpen},
	}
}

func (r Register) tellPart(name string) []string {
	p := r.part(name)
	words := []string{p.State, p.Rx, strconv.Itoa(p.Item), p.Scan}
	if p.Old != "" {
		words = append(words, "for", p.Old)
	}
	return words
}

func (r Register) tellTrace(name string) []string { return r.trail(r.part(name)).Lots }

func (r Register) tellOpen(string) []string {
	return listOf(r.open(), func(w Want) string { return w.Rx + "." + strconv.Itoa(w.Item) })
}

// ask returns the answer to a question.
func (r Register) ask(q question, line string) (string, api.Errno) {
	words := strings.Split(line, " ")
	if len(words) != q.words || slices.Contains(words, "") {
		return "", api.ErrSyntax
	}
	name := words[q.words-1]
	if q.words > 1 && !r.has(q.about, name) {
		return "", api.ErrUnknown
	}
	answer := q.answer(r, name)
	if len(answer) == 0 {
		return "none", api.OK
	}
	return strings.Join(answer, " "), api.OK
}

// enter adds the event of a line, and returns the answer.
func (s *Session) enter(line string) (string, api.Errno) {
	event, is := readLine(line)
	e := first(when(!is, api.ErrSyntax), when(len(s.events) == api.MaxEvents, api.ErrMany))
	if e != api.OK {
		return "", e
	}
	event.Number = s.next()
	// A session that was copied goes on in lists of its own.
	h := s.copied()
	if e := h.take(event); e != api.OK {
		return "", e
	}
	s.history = h
	return "done " + strconv.Itoa(event.Number), api.OK
}

// Do does a line, and returns its answer.
func (s *Session) Do(line string) (string, api.Errno) {
	if s == nil {
		return "", api.ErrState
	}
	if e := first(when(len(line) > api.MaxText, api.ErrLong), when(line == "", api.ErrSyntax)); e != api.OK {
		return "", e
	}
	word, _, _ := strings.Cut(line, " ")
	if _, is := kinds()[word]; is {
		return s.enter(line)
	}
	if q, is := questions()[word]; is {
		return s.register().ask(q, line)
	}
	return "", api.ErrKind
}

// Events returns the events.
func (s *Session) Events() []api.Event {
	if s == nil {
		return nil
	}
	return listOf(s.events, func(e api.Event) api.Event {
		e.Names, e.Values = slices.Clone(e.Names), slices.Clone(e.Values)
		return e
	})
}

// Log returns the log of the events.
func (s *Session) Log() string {
	if s == nil {
		return ""
	}
	return strings.Join(listOf(s.events, record), "")
}
