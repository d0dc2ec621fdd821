package record_test

import (
	"fmt"
	"math/rand/v2"
	"reflect"
	"strings"
	"testing"

	"cusp/api"
	"cusp/record"
)

const (
	least    = -1 << 63
	greatest = 1<<63 - 1
)

// alike reports whether two values are the same; nil and empty lists are.
func alike(a, b reflect.Value) bool {
	switch a.Kind() {
	case reflect.Slice:
		is := a.Len() == b.Len()
		for i := 0; is && i < a.Len(); i++ {
			is = alike(a.Index(i), b.Index(i))
		}
		return is
	case reflect.Struct:
		is := true
		for i := 0; is && i < a.NumField(); i++ {
			is = alike(a.Field(i), b.Field(i))
		}
		return is
	}
	return a.Equal(b)
}

// same reports a result that is not the wanted one; nil and empty lists are equal.
func same[T any](t *testing.T, what string, got, wanted T) {
	t.Helper()
	if !alike(reflect.ValueOf(got), reflect.ValueOf(wanted)) {
		t.Errorf("%s: got %s, want %s", what, short(got), short(wanted))
	}
}

// short returns the beginning of a text for a value: some texts have thousands of bytes.
func short(v any) string {
	s := fmt.Sprintf("%+v", v)
	return s[:min(len(s), 400)]
}

// refused reports another error than the wanted one, and a result beside it.
func refused[T any](t *testing.T, what string, got T, e, wanted api.Errno) {
	t.Helper()
	same(t, what, e, wanted)
	var nothing T
	if !alike(reflect.ValueOf(got), reflect.ValueOf(nothing)) {
		t.Errorf("%s: got %s beside an error", what, short(got))
	}
}

// fine returns a result, and reports its error.
func fine[T any](t *testing.T) func(T, api.Errno) T {
	return func(got T, e api.Errno) T {
		t.Helper()
		if e != api.OK {
			t.Errorf("error %d of what is right", e)
		}
		return got
	}
}

func dice() *rand.Rand { return rand.New(rand.NewPCG(101, 103)) }

// between returns a number from low to high.
func between(r *rand.Rand, low, high int) int { return low + r.IntN(high-low+1) }

// one returns one of some values.
func one[T any](r *rand.Rand, l ...T) T { return l[r.IntN(len(l))] }

// numbered returns a name with a number in it.
func numbered(name string, n int) string { return fmt.Sprintf("%s%d", name, n) }

// longName has as many bytes as a name may have.
const longName = "abcdefghijklmnopqrstuvw_"

// badNames are texts that are no names.
func badNames() []string {
	return []string{"", "1a", "_a", "a b", "a-b", "ä", "aé", "a\n", longName + "x"}
}

// printed is the printed script of the chapter.
const printed = "case c; crown 4 in zir shade A2 gap 1; bridge 6-8 in met;"

// crown returns an item with one tooth, bridge one with those from one to another one.
func crown(tooth int, material string) record.Item {
	return record.Item{Kind: "crown", Teeth: []int{tooth}, Material: material}
}

func bridge(from, to int, material string) record.Item {
	i := record.Item{Kind: "bridge", Material: material}
	for tooth := from; tooth <= to; tooth++ {
		i.Teeth = append(i.Teeth, tooth)
	}
	return i
}

// script returns the script of the chapter.
func script() record.Script {
	first := crown(4, "zir")
	first.Shade, first.Gap = "A2", 1
	return record.Script{Case: "c", Items: []record.Item{first, bridge(6, 8, "met")}}
}

// randomScript returns a script with up to n items of some materials.
func randomScript(r *rand.Rand, n int, materials ...string) record.Script {
	s := record.Script{Case: one(r, "c", "case", longName, "C_1")}
	tooth := 1
	for tooth <= record.MaxTooth && len(s.Items) < n {
		from := min(tooth+r.IntN(3), record.MaxTooth)
		i := record.Item{Kind: one(r, "crown", "inlay"), Teeth: []int{from}}
		if from < record.MaxTooth && r.IntN(3) == 0 {
			i = bridge(from, min(from+between(r, 1, 15), record.MaxTooth), "")
		}
		i.Material = one(r, materials...)
		if r.IntN(2) == 0 {
			i.Shade = one(r, "A2", "gap", "in", "shade", "z", longName)
		}
		i.Gap = max(0, between(r, -20, 20))
		s.Items = append(s.Items, i)
		tooth = i.Teeth[len(i.Teeth)-1] + 1
	}
	// Items may have any order.
	r.Shuffle(len(s.Items), func(i, k int) { s.Items[i], s.Items[k] = s.Items[k], s.Items[i] })
	return s
}

// event returns an event of which the text is empty.
func event(number int, kind string, values []int, names ...string) api.Event {
	return api.Event{Number: number, Kind: kind, Names: names, Values: values}
}

// rx returns an event of a prescription with a printed script.
func rx(number, day int, name, text string) api.Event {
	return api.Event{Number: number, Kind: "rx", Names: []string{name}, Values: []int{day}, Text: text}
}

func undo(number int) api.Event { return api.Event{Number: number, Kind: "undo"} }

// chapter returns the first n of the events of the chapter.
func chapter(n int) []api.Event {
	return []api.Event{
		rx(1, 1, "r", printed),
		event(2, "scan", []int{2}, "s", "r"),
		event(3, "lot", []int{2, 9}, "z", "zir"),
		event(4, "make", []int{3, 1}, "p", "r", "s", "z"),
		event(5, "lot", []int{4, 99}, "y", "zir"),
		event(6, "scan", []int{4}, "t", "r"),
		event(7, "remake", []int{5}, "q", "p", "t", "y"),
	}[:n]
}

// after returns events with further ones, whose Numbers are those that follow.
func after(l []api.Event, more ...api.Event) []api.Event {
	var out []api.Event
	for _, e := range append(append(out, l...), more...) {
		e.Number = len(out) + 1
		out = append(out, e)
	}
	return out
}

// line returns the body of an event without its Number, and body the one with it, by the definition.
func line(e api.Event) string {
	words := append([]string{e.Kind}, e.Names...)
	for _, v := range e.Values {
		words = append(words, fmt.Sprint(v))
	}
	if e.Kind == "rx" {
		words = append(words, e.Text)
	}
	return strings.Join(words, " ")
}

func body(e api.Event) string { return fmt.Sprint(e.Number) + " " + line(e) }

// randomName returns the name of one of the things of a sort, or of none or another one.
func randomName(r *rand.Rand, s shelf, letter byte) string {
	if l := s.order[letter]; len(l) > 0 && r.IntN(8) > 0 {
		return one(r, l...)
	}
	return numbered(strings.ToLower(string(letter)), r.IntN(40))
}

// randomKind returns a kind of events; an undo is rare.
func randomKind(r *rand.Rand) string {
	if r.IntN(30) == 0 {
		return "undo"
	}
	return one(r, "rx", "scan", "scan", "lot", "lot", "make", "make", "make", "make", "remake", "remake", "remake", "remake", "repair", "repair", "ship", "void")
}

// randomEvent returns an event after those that have done something: often it is accepted.
func randomEvent(r *rand.Rand, number int, s shelf) api.Event {
	e := api.Event{Number: number, Kind: randomKind(r)}
	if e.Kind == "undo" {
		return e
	}
	for _, letter := range []byte(letters(e.Kind)) {
		switch {
		case letter == 'x':
			e.Names = append(e.Names, one(r, "zir", "met"))
		case letter <= 'Z':
			e.Names = append(e.Names, numbered(strings.ToLower(string(letter)), r.IntN(40)))
		default:
			e.Names = append(e.Names, randomName(r, s, letter-'a'+'A'))
		}
	}
	e.Values = []int{max(0, s.day+one(r, -1, 0, 0, 0, 0, 0, 0, 0, 0, 0, 0, 1, 3))}
	switch e.Kind {
	case "rx":
		e.Text, _ = record.PrintScript(randomScript(r, between(r, 1, 3), "zir", "met"))
	case "lot":
		e.Values = append(e.Values, max(0, e.Values[0]+between(r, -1, 25)))
	case "make":
		e.Values = append(e.Values, r.IntN(4))
	}
	return e
}

// randomEvents returns events of which each one is accepted after those before it, by the definition: those of n ones that are.
func randomEvents(r *rand.Rand, n int) []api.Event {
	var l []api.Event
	for range n {
		if e := randomEvent(r, len(l)+1, shelfOf(l)); refusal(l, e) == api.OK {
			l = append(l, e)
		}
	}
	return l
}

// randomText returns a text of up to n bytes of any kind.
func randomText(r *rand.Rand, n int) string {
	var b []byte
	for range r.IntN(n + 1) {
		b = append(b, one(r, byte(r.IntN(256)), byte(between(r, 32, 126)), ' ', ';', '#', '1'))
	}
	return string(b)
}
