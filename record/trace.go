package record

import (
	"slices"

	"cusp/api"
)

// trail returns the trace of a part.
func (r Register) trail(part Part) Trail {
	t := Trail{Rx: part.Rx}
	for p := range r.origins(part) {
		t.Parts = append(t.Parts, p.Name)
		t.Scans = append(t.Scans, p.Scan)
		t.Lots = append(t.Lots, p.Lots...)
	}
	slices.Sort(t.Lots)
	t.Lots = slices.Compact(t.Lots)
	return t
}

// isAffected reports whether the trace of a part has a lot.
func (r Register) isAffected(part Part, lot Lot) bool {
	is := false
search:
	for p := range r.origins(part) {
		for _, name := range p.Lots {
			if r.lot(name) == lot {
				is = true
				break search
			}
		}
	}
	return is
}

// affected returns the names of the parts that are affected by a lot.
func (r Register) affected(lot string) []string {
	var names []string
	for _, p := range r.Parts {
		if r.isAffected(p, r.lot(lot)) {
			names = append(names, p.Name)
		}
	}
	return names
}

// open returns the open items.
func (r Register) open() []Want {
	var l []Want
	for _, x := range r.Rxs {
		for i := range x.Script.Items {
			if w := (Want{x.Name, i + 1}); r.isOpen(w) {
				l = append(l, w)
			}
		}
	}
	return l
}

// named returns the register after some events, if it has the thing with a name.
func named(l []api.Event, t thing, name string) (Register, api.Errno) {
	r, _, e := Replay(l)
	return r, first(e, checkName(name), when(!r.has(t, name), api.ErrUnknown))
}

// Trace returns where a part comes from.
func Trace(l []api.Event, part string) (Trail, api.Errno) {
	r, e := named(l, aPart, part)
	if e != api.OK {
		return Trail{}, e
	}
	return r.trail(r.part(part)), api.OK
}

// Affected returns the parts that have a lot in their trace.
func Affected(l []api.Event, lot string) ([]string, api.Errno) {
	r, e := named(l, aLot, lot)
	if e != api.OK {
		return nil, e
	}
	return r.affected(lot), api.OK
}

// Open returns the items that have no part.
func Open(l []api.Event) ([]Want, api.Errno) {
	r, _, e := Replay(l)
	return r.open(), e
}
