package record

import (
	"slices"

	"cusp/api"
)

// history is accepted events, and the registers after each one of those that count: an undo goes back to the one before.
type history struct {
	events []api.Event
	past   []Register
}

// register returns the register after the events.
func (h *history) register() Register {
	if len(h.past) == 0 {
		return Register{}
	}
	return h.past[len(h.past)-1]
}

// next returns the Number of the next event.
func (h *history) next() int { return len(h.events) + 1 }

// check returns the error with which an event, for which CheckEvent returns OK, is not accepted, or OK.
func (h *history) check(e api.Event) api.Errno {
	if e.Number != h.next() {
		return api.ErrOrder
	}
	if e.Kind == kindUndo {
		return when(len(h.past) == 0, api.ErrEmpty)
	}
	return h.register().check(kinds()[e.Kind], e)
}

// add adds an event that is accepted.
func (h *history) add(e api.Event) {
	h.events = append(h.events, e)
	if e.Kind == kindUndo {
		h.past = h.past[:len(h.past)-1]
		return
	}
	r := kinds()[e.Kind].do(h.register(), e)
	r.Day = e.Values[0]
	h.past = append(h.past, r)
}

// take adds an event, or returns the error with which it is none, or is not accepted.
func (h *history) take(e api.Event) api.Errno {
	if bad := CheckEvent(e); bad != api.OK {
		return bad
	}
	if bad := h.check(e); bad != api.OK {
		return bad
	}
	h.add(e)
	return api.OK
}

// copied returns the history in lists of its own.
func (h *history) copied() history {
	return history{slices.Clone(h.events), slices.Clone(h.past)}
}

// historyOf returns the history of some events, or the place of the first one with an error.
func historyOf(l []api.Event) (history, int, api.Errno) {
	if len(l) > api.MaxEvents {
		return history{}, 0, api.ErrMany
	}
	var h history
	for i, e := range l {
		if bad := h.take(e); bad != api.OK {
			return history{}, i + 1, bad
		}
	}
	return h, 0, api.OK
}

// Replay returns the register after some events, or the place of the first one with an error.
func Replay(l []api.Event) (Register, int, api.Errno) {
	h, at, e := historyOf(l)
	return h.register(), at, e
}

// Accepts returns the error with which an event is not accepted after others.
func Accepts(l []api.Event, e api.Event) api.Errno {
	h, _, bad := historyOf(l)
	if bad != api.OK {
		return bad
	}
	if len(l) == api.MaxEvents {
		return first(CheckEvent(e), api.ErrMany)
	}
	return h.take(e)
}
