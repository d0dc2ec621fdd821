package record

import (
	"slices"
	"strconv"
	"strings"

	"cusp/api"
)

// The kinds of events.
const (
	kindRx     = "rx"
	kindScan   = "scan"
	kindLot    = "lot"
	kindMake   = "make"
	kindRemake = "remake"
	kindRepair = "repair"
	kindShip   = "ship"
	kindVoid   = "void"
	kindUndo   = "undo"
)

// thing is what a name belongs to.
type thing int

const (
	aMaterial thing = iota // which is put down nowhere
	anRx
	aScan
	aLot
	aPart
)

// kind is a kind of events.
type kind struct {
	isNew   bool    // whether its first name is that of something new
	names   []thing // what its names belong to
	values  int     // their number; the first one is the day
	hasText bool
	check   func(r Register, e api.Event) api.Errno // returns the errors that only events of this kind may have
	do      func(r Register, e api.Event) Register
}

// kinds returns the kinds of events by their names.
func kinds() map[string]kind {
	return map[string]kind{
		kindRx:     {isNew: true, names: []thing{anRx}, values: 1, hasText: true, check: Register.checkNothing, do: Register.addRx},
		kindScan:   {isNew: true, names: []thing{aScan, anRx}, values: 1, check: Register.checkNothing, do: Register.addScan},
		kindLot:    {isNew: true, names: []thing{aLot, aMaterial}, values: 2, check: Register.checkLot, do: Register.addLot},
		kindMake:   {isNew: true, names: []thing{aPart, anRx, aScan, aLot}, values: 2, check: Register.checkMake, do: Register.addPart},
		kindRemake: {isNew: true, names: []thing{aPart, aPart, aScan, aLot}, values: 1, check: Register.checkRemake, do: Register.remake},
		kindRepair: {names: []thing{aPart, aLot}, values: 1, check: Register.checkRepair, do: Register.repair},
		kindShip:   {names: []thing{aPart}, values: 1, check: Register.checkShip, do: Register.ship},
		kindVoid:   {names: []thing{aPart}, values: 1, check: Register.checkVoid, do: Register.void},
		kindUndo:   {},
	}
}

// checkText returns ErrForm if a text is not that of an event of a kind.
func (k kind) checkText(text string) api.Errno {
	if !k.hasText {
		return when(text != "", api.ErrForm)
	}
	script, _, e := ParseScript(text)
	if e != api.OK {
		return api.ErrForm
	}
	printed, e := PrintScript(script)
	return when(e != api.OK || printed != text, api.ErrForm)
}

// CheckEvent returns the first error of an event by itself.
func CheckEvent(e api.Event) api.Errno {
	k, isKind := kinds()[e.Kind]
	return first(
		within(e.Number, 1, api.MaxEvents),
		when(!isKind, api.ErrKind),
		when(len(e.Names) != len(k.names) || len(e.Values) != k.values, api.ErrShape),
		checkNames(e.Names),
		allWithin(e.Values, 0, api.MaxNumber),
		k.checkText(e.Text),
	)
}

// body returns the body of an event.
func body(e api.Event) string {
	words := slices.Concat([]string{strconv.Itoa(e.Number), e.Kind}, e.Names, listOf(e.Values, strconv.Itoa))
	if e.Kind == kindRx {
		words = append(words, e.Text)
	}
	return strings.Join(words, " ")
}

// readLine returns the event, but for its number, with a body without this number, if a text has the form of one.
func readLine(line string) (api.Event, bool) {
	name, _, _ := strings.Cut(line, " ")
	k, is := kinds()[name]
	if !is {
		return api.Event{}, false
	}
	e := api.Event{Kind: name}
	names := 1 + len(k.names)
	all := names + k.values
	words := strings.Split(line, " ")
	if k.hasText {
		words = strings.SplitN(line, " ", all+1)
		if len(words) <= all {
			return api.Event{}, false
		}
		e.Text, words = words[all], words[:all]
	}
	if len(words) != all || slices.Contains(words, "") {
		return api.Event{}, false
	}
	e.Names = slices.Clone(words[1:names])
	for _, word := range words[names:] {
		value, is := number(word)
		if !is {
			return api.Event{}, false
		}
		e.Values = append(e.Values, value)
	}
	return e, true
}
