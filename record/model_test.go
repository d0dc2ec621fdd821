package record_test

import (
	"slices"
	"strings"

	"cusp/api"
	"cusp/record"
)

// shelf is what the events that count have done, by the definitions of the chapter: all things by the letter of their sort (R, S, L or P) and their name.
type shelf struct {
	day     int
	counted int
	order   map[byte][]string
	scripts map[string]record.Script
	scans   map[string]string // the prescription of each scan
	lots    map[string]record.Lot
	parts   map[string]record.Part
}

// counting returns the events that count.
func counting(l []api.Event) []api.Event {
	var out []api.Event
	for _, e := range l {
		if e.Kind == "undo" {
			out = out[:len(out)-1]
		} else {
			out = append(out, e)
		}
	}
	return out
}

// shelfOf returns what accepted events have done.
func shelfOf(l []api.Event) shelf {
	s := shelf{order: map[byte][]string{}, scripts: map[string]record.Script{}, scans: map[string]string{}, lots: map[string]record.Lot{}, parts: map[string]record.Part{}}
	for _, e := range counting(l) {
		s.counted++
		s.day = e.Values[0]
		s.do(e)
	}
	return s
}

func (s shelf) put(letter byte, name string) { s.order[letter] = append(s.order[letter], name) }

// end changes the state of a part.
func (s shelf) end(part, state string) {
	p := s.parts[part]
	p.State = state
	s.parts[part] = p
}

func (s shelf) do(e api.Event) {
	name := e.Names[0]
	switch e.Kind {
	case "rx":
		s.scripts[name], _, _ = record.ParseScript(e.Text)
		s.put('R', name)
	case "scan":
		s.scans[name] = e.Names[1]
		s.put('S', name)
	case "lot":
		s.lots[name] = record.Lot{Name: name, Material: e.Names[1], Until: e.Values[1]}
		s.put('L', name)
	case "make":
		s.parts[name] = record.Part{Name: name, Rx: e.Names[1], Scan: e.Names[2], Item: e.Values[1], Lots: e.Names[3:], State: "made"}
		s.put('P', name)
	case "remake":
		old := s.parts[e.Names[1]]
		s.end(old.Name, "void")
		s.parts[name] = record.Part{Name: name, Rx: old.Rx, Scan: e.Names[2], Item: old.Item, Old: old.Name, Lots: e.Names[3:], State: "made"}
		s.put('P', name)
	case "repair":
		p := s.parts[name]
		p.Lots = slices.Concat(p.Lots, e.Names[1:])
		s.parts[name] = p
	case "ship":
		s.end(name, "shipped")
	case "void":
		s.end(name, "void")
	}
}

// register returns the register of a shelf.
func (s shelf) register() record.Register {
	r := record.Register{Day: s.day}
	for _, name := range s.order['R'] {
		r.Rxs = append(r.Rxs, record.Rx{Name: name, Script: s.scripts[name]})
	}
	for _, name := range s.order['S'] {
		r.Scans = append(r.Scans, record.Scan{Name: name, Rx: s.scans[name]})
	}
	for _, name := range s.order['L'] {
		r.Lots = append(r.Lots, s.lots[name])
	}
	for _, name := range s.order['P'] {
		r.Parts = append(r.Parts, s.parts[name])
	}
	return r
}

// letters tells what the names of an event belong to: a capital is something new, x is a material.
func letters(kind string) string {
	return map[string]string{"rx": "R", "scan": "Sr", "lot": "Lx", "make": "Prsl", "remake": "Ppsl", "repair": "pl", "ship": "p", "void": "p"}[kind]
}

// ofNames returns the error of the names of an event.
func (s shelf) ofNames(e api.Event) api.Errno {
	unknown, full := api.OK, api.OK
	for i, letter := range letters(e.Kind) {
		l := s.order[strings.ToUpper(string(letter))[0]]
		isThere := slices.Contains(l, e.Names[i])
		switch {
		case letter <= 'Z' && isThere:
			return api.ErrTwice
		case letter <= 'Z' && len(l) == 64:
			full = api.ErrMany
		case letter > 'Z' && letter != 'x' && !isThere:
			unknown = api.ErrUnknown
		}
	}
	if unknown != api.OK {
		return unknown
	}
	return full
}

// item is what a lot is used for.
type item struct {
	rx     string
	number int
}

// ofUse returns the error of the use of a lot, and before it that of a scan if there is one.
func (s shelf) ofUse(i item, scan, lot string, day int) api.Errno {
	switch l := s.lots[lot]; {
	case scan != "" && s.scans[scan] != i.rx:
		return api.ErrConflict
	case l.Material != s.scripts[i.rx].Items[i.number-1].Material:
		return api.ErrKind
	case day > l.Until:
		return api.ErrOver
	}
	return api.OK
}

// isMade reports whether a part of an item is not void.
func (s shelf) isMade(i item) bool {
	for _, p := range s.parts {
		if p.Rx == i.rx && p.Item == i.number && p.State != "void" {
			return true
		}
	}
	return false
}

// ofMake, ofOld and ofKind return the errors that only some kinds have.
func (s shelf) ofMake(e api.Event) api.Errno {
	i := item{e.Names[1], e.Values[1]}
	if i.number < 1 || i.number > len(s.scripts[i.rx].Items) {
		return api.ErrRange
	}
	if bad := s.ofUse(i, e.Names[2], e.Names[3], e.Values[0]); bad != api.OK {
		return bad
	}
	if s.isMade(i) {
		return api.ErrState
	}
	return api.OK
}

func (s shelf) ofOld(e api.Event) api.Errno {
	p, day := s.parts[e.Names[0]], e.Values[0]
	if e.Kind == "remake" {
		p = s.parts[e.Names[1]]
	}
	if p.State == "void" || e.Kind == "ship" && p.State == "shipped" {
		return api.ErrState
	}
	switch e.Kind {
	case "remake":
		return s.ofUse(item{p.Rx, p.Item}, e.Names[2], e.Names[3], day)
	case "repair":
		bad := s.ofUse(item{p.Rx, p.Item}, "", e.Names[1], day)
		if bad == api.OK && slices.Contains(p.Lots, e.Names[1]) {
			return api.ErrTwice
		}
		return bad
	}
	return api.OK
}

func (s shelf) ofKind(e api.Event) api.Errno {
	switch e.Kind {
	case "rx", "scan":
		return api.OK
	case "lot":
		if e.Values[1] < e.Values[0] || e.Values[1] > 99999 {
			return api.ErrRange
		}
		return api.OK
	case "make":
		return s.ofMake(e)
	}
	return s.ofOld(e)
}

// refusal returns the error with which an event, for which CheckEvent returns OK, is not accepted after others, or OK.
func refusal(l []api.Event, e api.Event) api.Errno {
	s := shelfOf(l)
	if e.Number != len(l)+1 {
		return api.ErrOrder
	}
	if e.Kind == "undo" {
		if s.counted == 0 {
			return api.ErrEmpty
		}
		return api.OK
	}
	if e.Values[0] > 99999 {
		return api.ErrRange
	}
	if e.Values[0] < s.day {
		return api.ErrState
	}
	if bad := s.ofNames(e); bad != api.OK {
		return bad
	}
	return s.ofKind(e)
}

// trail returns the trace of a part.
func (s shelf) trail(part string) record.Trail {
	t := record.Trail{Rx: s.parts[part].Rx}
	lots := map[string]bool{}
	for name := part; name != ""; name = s.parts[name].Old {
		t.Parts = append(t.Parts, name)
		t.Scans = append(t.Scans, s.parts[name].Scan)
		for _, lot := range s.parts[name].Lots {
			lots[lot] = true
		}
	}
	for lot := range lots {
		t.Lots = append(t.Lots, lot)
	}
	slices.Sort(t.Lots)
	return t
}

// open returns the open items.
func (s shelf) open() []record.Want {
	var l []record.Want
	for _, name := range s.order['R'] {
		for i := range s.scripts[name].Items {
			if !s.isMade(item{name, i + 1}) {
				l = append(l, record.Want{Rx: name, Item: i + 1})
			}
		}
	}
	return l
}
