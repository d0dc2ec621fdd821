package record

import (
	"iter"
	"slices"

	"cusp/api"
)

// The states of parts.
const (
	stateMade    = "made"
	stateShipped = "shipped"
	stateVoid    = "void"
)

// names returns the names of all things of a sort.
func (r Register) names(t thing) []string {
	switch t {
	case anRx:
		return listOf(r.Rxs, func(x Rx) string { return x.Name })
	case aScan:
		return listOf(r.Scans, func(s Scan) string { return s.Name })
	case aLot:
		return listOf(r.Lots, func(l Lot) string { return l.Name })
	case aPart:
		return listOf(r.Parts, func(p Part) string { return p.Name })
	}
	return nil
}

// place returns the place of the thing with a name, or -1.
func (r Register) place(t thing, name string) int { return slices.Index(r.names(t), name) }

func (r Register) has(t thing, name string) bool { return r.place(t, name) >= 0 }

// rx returns the prescription with a name that the register has, as scan, lot and part do for these.
func (r Register) rx(name string) Rx { return r.Rxs[r.place(anRx, name)] }

func (r Register) scan(name string) Scan { return r.Scans[r.place(aScan, name)] }

func (r Register) lot(name string) Lot { return r.Lots[r.place(aLot, name)] }

func (r Register) part(name string) Part { return r.Parts[r.place(aPart, name)] }

// isOpen reports whether all parts of an item are void.
func (r Register) isOpen(w Want) bool {
	return !slices.ContainsFunc(r.Parts, func(p Part) bool { return p.want() == w && p.State != stateVoid })
}

// want returns the item of a part.
func (p Part) want() Want { return Want{p.Rx, p.Item} }

// checkKnown returns ErrUnknown if a name is not one of the things to which it belongs.
func (r Register) checkKnown(of []thing, names []string) api.Errno {
	for i, t := range of {
		if t != aMaterial && !r.has(t, names[i]) {
			return api.ErrUnknown
		}
	}
	return api.OK
}

// checkNames returns the first error of the names of an event of a kind.
func (r Register) checkNames(k kind, e api.Event) api.Errno {
	if !k.isNew {
		return r.checkKnown(k.names, e.Names)
	}
	like := r.names(k.names[0])
	return first(
		when(slices.Contains(like, e.Names[0]), api.ErrTwice),
		r.checkKnown(k.names[1:], e.Names[1:]),
		when(len(like) == api.MaxParts, api.ErrMany),
	)
}

// check returns the error with which an event of a kind, but no undo, is not accepted, or OK.
func (r Register) check(k kind, e api.Event) api.Errno {
	day := e.Values[0]
	bad := first(
		when(day > api.MaxDay, api.ErrRange),
		when(day < r.Day, api.ErrState),
		r.checkNames(k, e),
	)
	if bad != api.OK {
		return bad
	}
	return k.check(r, e)
}

func (r Register) checkNothing(api.Event) api.Errno { return api.OK }

func (r Register) checkLot(e api.Event) api.Errno {
	return within(e.Values[1], e.Values[0], api.MaxDay)
}

// checkScan returns ErrConflict if a scan is not one of a prescription.
func (r Register) checkScan(scan, rx string) api.Errno {
	return when(r.scan(scan).Rx != rx, api.ErrConflict)
}

// checkUse returns the error with which a lot is not used for an item on a day.
func (r Register) checkUse(lot string, item Want, day int) api.Errno {
	l := r.lot(lot)
	return first(
		when(l.Material != r.rx(item.Rx).Script.Items[item.Item-1].Material, api.ErrKind),
		when(day > l.Until, api.ErrOver),
	)
}

func (r Register) checkMake(e api.Event) api.Errno {
	item := Want{e.Names[1], e.Values[1]}
	if bad := within(item.Item, 1, len(r.rx(item.Rx).Script.Items)); bad != api.OK {
		return bad
	}
	return first(
		r.checkScan(e.Names[2], item.Rx),
		r.checkUse(e.Names[3], item, e.Values[0]),
		when(!r.isOpen(item), api.ErrState),
	)
}

func (r Register) checkRemake(e api.Event) api.Errno {
	old := r.part(e.Names[1])
	return first(
		when(old.State == stateVoid, api.ErrState),
		r.checkScan(e.Names[2], old.Rx),
		r.checkUse(e.Names[3], old.want(), e.Values[0]),
	)
}

func (r Register) checkRepair(e api.Event) api.Errno {
	p := r.part(e.Names[0])
	return first(
		when(p.State == stateVoid, api.ErrState),
		r.checkUse(e.Names[1], p.want(), e.Values[0]),
		when(slices.Contains(p.Lots, e.Names[1]), api.ErrTwice),
	)
}

func (r Register) checkShip(e api.Event) api.Errno {
	return when(r.part(e.Names[0]).State != stateMade, api.ErrState)
}

func (r Register) checkVoid(e api.Event) api.Errno {
	return when(r.part(e.Names[0]).State == stateVoid, api.ErrState)
}

func (r Register) addRx(e api.Event) Register {
	script, _, _ := ParseScript(e.Text)
	r.Rxs = with(r.Rxs, Rx{e.Names[0], script})
	return r
}

func (r Register) addScan(e api.Event) Register {
	r.Scans = with(r.Scans, Scan{e.Names[0], e.Names[1]})
	return r
}

func (r Register) addLot(e api.Event) Register {
	r.Lots = with(r.Lots, Lot{e.Names[0], e.Names[1], e.Values[1]})
	return r
}

func (r Register) addPart(e api.Event) Register {
	p := Part{Name: e.Names[0], Rx: e.Names[1], Scan: e.Names[2], Item: e.Values[1], Lots: []string{e.Names[3]}, State: stateMade}
	r.Parts = with(r.Parts, p)
	return r
}

// replace puts a part in the place of the one with its name.
func (r Register) replace(p Part) Register {
	r.Parts = instead(r.Parts, r.place(aPart, p.Name), p)
	return r
}

// inState returns the register with another state of a part.
func (r Register) inState(part, state string) Register {
	p := r.part(part)
	p.State = state
	return r.replace(p)
}

func (r Register) remake(e api.Event) Register {
	old := r.part(e.Names[1])
	r = r.inState(old.Name, stateVoid)
	p := Part{Name: e.Names[0], Rx: old.Rx, Scan: e.Names[2], Item: old.Item, Old: old.Name, Lots: []string{e.Names[3]}, State: stateMade}
	r.Parts = with(r.Parts, p)
	return r
}

func (r Register) repair(e api.Event) Register {
	p := r.part(e.Names[0])
	p.Lots = with(p.Lots, e.Names[1])
	return r.replace(p)
}

func (r Register) ship(e api.Event) Register { return r.inState(e.Names[0], stateShipped) }

func (r Register) void(e api.Event) Register { return r.inState(e.Names[0], stateVoid) }

// origins visits a part, the part that it replaces, the one that this replaces, and so on.
func (r Register) origins(p Part) iter.Seq[Part] {
	return func(yield func(Part) bool) {
		for yield(p) && p.Old != "" {
			p = r.part(p.Old)
		}
	}
}
