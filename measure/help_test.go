package measure_test

import (
	"fmt"
	"math/big"
	"math/rand/v2"
	"reflect"
	"testing"

	"cusp/api"
	"cusp/measure"
)

const (
	least    = -1 << 63
	greatest = 1<<63 - 1
)

// plain returns a value with nil for an empty list: both are the same.
func plain(v any) any {
	switch x := v.(type) {
	case []int:
		return none(x)
	case []measure.Change:
		return none(x)
	case measure.Arch:
		return measure.Arch{Teeth: none(x.Teeth)}
	}
	return v
}

func none[T any](l []T) []T {
	if len(l) == 0 {
		return nil
	}
	return l
}

// same reports a result that is not the wanted one; nil and empty lists are equal.
func same[T any](t *testing.T, what string, got, wanted T) {
	t.Helper()
	if !reflect.DeepEqual(plain(got), plain(wanted)) {
		t.Errorf("%s: got %s, want %s", what, short(got), short(wanted))
	}
}

// short returns the beginning of a text for a value: some texts have thousands of bytes.
func short(v any) string {
	s := fmt.Sprintf("%+v", v)
	return s[:min(len(s), 300)]
}

// refused reports another error than the wanted one, and a result beside it.
func refused[T any](t *testing.T, what string, got T, e, wanted api.Errno) {
	t.Helper()
	same(t, what, e, wanted)
	if !reflect.ValueOf(plain(got)).IsZero() {
		t.Errorf("%s: got %s beside an error", what, short(got))
	}
}

// fine returns a result, and reports its error.
func fine[T any](t *testing.T) func(T, api.Errno) T {
	return func(got T, e api.Errno) T {
		t.Helper()
		if e != api.OK {
			t.Errorf("error %d of what is right", e)
		}
		return got
	}
}

func at(x, y, z int) api.Cell { return api.Cell{X: x, Y: y, Z: z} }

func tooth(name string, left, right, tip api.Cell) measure.Tooth {
	return measure.Tooth{Name: name, Left: left, Right: right, Tip: tip}
}

func arch(teeth ...measure.Tooth) measure.Arch { return measure.Arch{Teeth: teeth} }

// chapter returns the arch A of the chapter's examples.
func chapter() measure.Arch {
	return arch(
		tooth("p", at(0, 0, 0), at(3, 4, 0), at(1, 1, 5)),
		tooth("q", at(4, 4, 0), at(8, 4, 0), at(6, 5, 3)),
		tooth("r", at(9, 4, 1), at(12, 0, 1), at(11, 1, 5)),
	)
}

// tips returns an arch with some tips; the ends of all teeth are the same.
func tips(cells ...api.Cell) measure.Arch {
	var a measure.Arch
	for i, c := range cells {
		a.Teeth = append(a.Teeth, tooth(fmt.Sprintf("t%d", i), at(0, 0, 0), at(0, 0, 0), c))
	}
	return a
}

// manyTeeth returns an arch with so many teeth.
func manyTeeth(n int) measure.Arch { return tips(make([]api.Cell, n)...) }

func dice() *rand.Rand { return rand.New(rand.NewPCG(19, 23)) }

// randomCell returns a cell with coordinates from -size to size.
func randomCell(r *rand.Rand, size int) api.Cell {
	return at(r.IntN(2*size+1)-size, r.IntN(2*size+1)-size, r.IntN(2*size+1)-size)
}

// randomArch returns an arch with so many teeth, of 40 names, and coordinates from -size to size.
func randomArch(r *rand.Rand, n, size int) measure.Arch {
	var a measure.Arch
	for _, name := range r.Perm(40)[:n] {
		a.Teeth = append(a.Teeth, tooth(fmt.Sprintf("t%d", name), randomCell(r, size), randomCell(r, size), randomCell(r, size)))
	}
	return a
}

// randomRange returns the first and the last number of a range of n teeth.
func randomRange(r *rand.Rand, n int) (int, int) {
	from := r.IntN(n)
	return from, from + r.IntN(n-from)
}

func exact(a api.Rat) api.Span { return api.Span{Low: a, High: a} }

// number returns a number as a fraction of package big.
func number(t *testing.T, a api.Rat) *big.Rat {
	t.Helper()
	n, is := new(big.Rat).SetString(string(a))
	if !is {
		t.Fatalf("%q is no number", a)
	}
	return n
}

func text(n *big.Rat) api.Rat { return api.Rat(n.RatString()) }

// badCells returns cells that are none.
func badCells() []api.Cell {
	return []api.Cell{at(1001, 0, 0), at(-1001, 0, 0), at(0, 1001, 0), at(0, -1001, 0), at(0, 0, 1001), at(0, 0, -1001), at(least, 0, 0), at(0, greatest, 0), at(0, 0, least)}
}

// faulty is an arch with an error.
type faulty struct {
	what string
	a    measure.Arch
	e    api.Errno
}

// faultyArches returns arches with each kind of error.
func faultyArches() []faulty {
	l := []faulty{{"too many teeth", manyTeeth(33), api.ErrMany}}
	add := func(what string, e api.Errno, change func(a measure.Arch)) {
		a := chapter()
		change(a)
		l = append(l, faulty{what, a, e})
	}
	add("no name", api.ErrName, func(a measure.Arch) { a.Teeth[2].Name = "" })
	add("a name twice", api.ErrTwice, func(a measure.Arch) { a.Teeth[2].Name = "p" })
	for _, c := range badCells() {
		add("a Left that is no cell", api.ErrRange, func(a measure.Arch) { a.Teeth[0].Left = c })
		add("a Right that is no cell", api.ErrRange, func(a measure.Arch) { a.Teeth[1].Right = c })
		add("a Tip that is no cell", api.ErrRange, func(a measure.Arch) { a.Teeth[2].Tip = c })
	}
	return l
}

// faultyRange is a range that an arch with three teeth does not have.
type faultyRange struct {
	from, to int
	e        api.Errno
}

func faultyRanges() []faultyRange {
	return []faultyRange{
		{-1, 0, api.ErrUnknown}, {0, -1, api.ErrUnknown}, {3, 3, api.ErrUnknown}, {0, 3, api.ErrUnknown}, {3, 0, api.ErrUnknown}, {2, 3, api.ErrUnknown}, {-1, -2, api.ErrUnknown}, {4, 3, api.ErrUnknown},
		{least, 0, api.ErrUnknown}, {0, greatest, api.ErrUnknown}, {greatest, least, api.ErrUnknown},
		{1, 0, api.ErrOrder}, {2, 0, api.ErrOrder}, {2, 1, api.ErrOrder},
	}
}
