package bite

import (
	"iter"

	"cusp/api"
)

// The states of a position.
const (
	isApart = iota
	isTouching
	isHitting
)

// set keeps the cells of a set.
type set map[api.Cell]bool

func setOf(l []api.Cell) set {
	s := make(set, len(l))
	for _, c := range l {
		s[c] = true
	}
	return s
}

// touches reports whether a cell has a neighbour in a set.
func (s set) touches(c api.Cell) bool {
	return s[api.Cell{X: c.X - 1, Y: c.Y, Z: c.Z}] || s[api.Cell{X: c.X + 1, Y: c.Y, Z: c.Z}] ||
		s[api.Cell{X: c.X, Y: c.Y - 1, Z: c.Z}] || s[api.Cell{X: c.X, Y: c.Y + 1, Z: c.Z}] ||
		s[api.Cell{X: c.X, Y: c.Y, Z: c.Z - 1}] || s[api.Cell{X: c.X, Y: c.Y, Z: c.Z + 1}]
}

// meeting is what both sets have to do with each other at a position: where there are hits, there are no contacts.
type meeting struct {
	hits     []api.Cell
	contacts []api.Cell
}

func (m meeting) state() int {
	if len(m.hits) > 0 {
		return isHitting
	}
	if len(m.contacts) > 0 {
		return isTouching
	}
	return isApart
}

// meet returns what an upper set has to do with a lower one that is shifted by a vector.
func meet(upper []api.Cell, lower set, by api.Cell) meeting {
	var m meeting
	// To shift the upper cells back keeps the lower set as it is, and the upper cells in their order.
	back := shiftBack(by)
	for _, c := range upper {
		there := back(c)
		if lower[there] {
			m.hits = append(m.hits, c)
		} else if lower.touches(there) {
			m.contacts = append(m.contacts, c)
		}
	}
	if len(m.hits) > 0 {
		m.contacts = nil
	}
	return m
}

// meetings visits the positions of a bite: their numbers, and what both sets have to do with each other there.
func (b Bite) meetings() iter.Seq2[int, meeting] {
	return func(yield func(int, meeting) bool) {
		lower := setOf(b.Lower)
		for i, by := range b.Path {
			if !yield(i, meet(b.Upper, lower, by)) {
				return
			}
		}
	}
}

// meetingAt returns what both sets have to do with each other at a position.
func (b Bite) meetingAt(position int) meeting {
	return meet(b.Upper, setOf(b.Lower), b.Path[position])
}

// contacts returns the contacts at a position, or ErrHit if there are hits.
func (b Bite) contacts(position int) ([]api.Cell, api.Errno) {
	m := b.meetingAt(position)
	if m.state() == isHitting {
		return nil, api.ErrHit
	}
	return m.contacts, api.OK
}

// Hits returns the cells that both sets have at a position.
func Hits(b Bite, position int) ([]api.Cell, api.Errno) {
	if e := checkAt(b, position); e != api.OK {
		return nil, e
	}
	return b.meetingAt(position).hits, api.OK
}

// Contacts returns the upper cells that have contact at a position.
func Contacts(b Bite, position int) ([]api.Cell, api.Errno) {
	if e := checkAt(b, position); e != api.OK {
		return nil, e
	}
	return b.contacts(position)
}

// States returns for each position 0 (apart), 1 (in contact) or 2 (hit).
func States(b Bite) ([]int, api.Errno) {
	if e := CheckBite(b); e != api.OK {
		return nil, e
	}
	states := make([]int, len(b.Path))
	for i, m := range b.meetings() {
		states[i] = m.state()
	}
	return states, api.OK
}

// First returns the first position with a state of at least so much.
func First(b Bite, state int) (int, api.Errno) {
	if e := first(CheckBite(b), within(state, isApart, isHitting)); e != api.OK {
		return 0, e
	}
	for i, m := range b.meetings() {
		if m.state() >= state {
			return i, api.OK
		}
	}
	return 0, api.ErrNone
}

// Marks returns the upper cells that have contact on a path, and how often.
func Marks(b Bite) ([]Spot, api.Errno) {
	if e := CheckBite(b); e != api.OK {
		return nil, e
	}
	counts := map[api.Cell]int{}
	for _, m := range b.meetings() {
		for _, c := range m.contacts {
			counts[c]++
		}
	}
	var marks []Spot
	for _, c := range b.Upper {
		if n := counts[c]; n > 0 {
			marks = append(marks, Spot{At: c, Count: n})
		}
	}
	return marks, api.OK
}
