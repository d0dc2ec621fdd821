package record

import (
	"cmp"
	"slices"
	"strings"

	"cusp/api"
)

// entry is a note with its event, whose Number is not known.
type entry struct {
	Note
	event api.Event
}

// day returns the day of a note.
func (x entry) day() int { return x.event.Values[0] }

// compare returns -1, 0 or 1 if a note comes before another one, has its place, or comes behind it.
func (n Note) compare(o Note) int {
	return cmp.Or(strings.Compare(n.Desk, o.Desk), cmp.Compare(n.Number, o.Number))
}

// follows reports whether a note may come directly behind another one.
func (x entry) follows(before entry) bool {
	return x.compare(before.Note) > 0 && (x.Desk != before.Desk || x.day() >= before.day())
}

// entriesOf returns notes with their events, or their first error.
func entriesOf(l []Note) ([]entry, api.Errno) {
	if len(l) > api.MaxEvents {
		return nil, api.ErrMany
	}
	var out []entry
	for i, n := range l {
		event, is := readLine(n.Line)
		e := first(
			checkName(n.Desk),
			within(n.Number, 1, api.MaxEvents),
			when(!is || event.Kind == kindUndo, api.ErrSyntax),
		)
		if e != api.OK {
			return nil, e
		}
		out = append(out, entry{n, event})
		if i > 0 && !out[i].follows(out[i-1]) {
			return nil, api.ErrOrder
		}
	}
	return out, api.OK
}

// CheckNotes returns the first error of notes, or OK.
func CheckNotes(l []Note) api.Errno {
	_, e := entriesOf(l)
	return e
}

// checkMarks returns the first error of marks, or OK.
func checkMarks(v []Mark) api.Errno {
	if len(v) > api.MaxEvents {
		return api.ErrMany
	}
	for i, m := range v {
		e := first(
			checkName(m.Desk),
			within(m.Number, 0, api.MaxEvents),
			when(i > 0 && m.Desk <= v[i-1].Desk, api.ErrOrder),
		)
		if e != api.OK {
			return e
		}
	}
	return api.OK
}

// Gather returns the notes of both.
func Gather(a, b []Note) ([]Note, api.Errno) {
	if e := first(CheckNotes(a), CheckNotes(b)); e != api.OK {
		return nil, e
	}
	l := slices.Concat(a, b)
	slices.SortFunc(l, Note.compare)
	l = slices.Compact(l)
	for i, n := range l {
		if i > 0 && n.compare(l[i-1]) == 0 {
			return nil, api.ErrConflict
		}
	}
	if len(l) > api.MaxEvents {
		return nil, api.ErrMany
	}
	// Each note is right by itself, and their places ascend: only their days may be wrong.
	if CheckNotes(l) != api.OK {
		return nil, api.ErrConflict
	}
	return l, api.OK
}

// Lacking returns what is lacking to someone with some marks.
func Lacking(l []Note, v []Mark) ([]Note, api.Errno) {
	if e := first(CheckNotes(l), checkMarks(v)); e != api.OK {
		return nil, e
	}
	has := map[string]int{}
	for _, m := range v {
		has[m.Desk] = m.Number
	}
	var out []Note
	for _, n := range l {
		if n.Number > has[n.Desk] {
			out = append(out, n)
		}
	}
	return out, api.OK
}

// Fold returns the events of the fold of notes, and what is set aside.
func Fold(l []Note) ([]api.Event, []Mark, api.Errno) {
	entries, e := entriesOf(l)
	if e != api.OK {
		return nil, nil, e
	}
	// Notes of one day stay in their order: it is that of the desks and the numbers.
	slices.SortStableFunc(entries, func(x, y entry) int { return cmp.Compare(x.day(), y.day()) })
	var h history
	var aside []Mark
	for _, x := range entries {
		x.event.Number = h.next()
		if h.take(x.event) != api.OK {
			aside = append(aside, Mark{x.Desk, x.Number})
		}
	}
	return h.events, aside, api.OK
}
