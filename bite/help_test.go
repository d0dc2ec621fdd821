package bite_test

import (
	"cmp"
	"fmt"
	"math/rand/v2"
	"reflect"
	"slices"
	"testing"

	"cusp/api"
	"cusp/bite"
)

const (
	least    = -1 << 63
	greatest = 1<<63 - 1
)

// plain returns a value with nil for an empty list: both are the same.
func plain(v any) any {
	switch x := v.(type) {
	case []int:
		return none(x)
	case []api.Cell:
		return none(x)
	case [][2]int:
		return none(x)
	case []bite.Column:
		return none(x)
	case []bite.Spot:
		return none(x)
	case bite.Bite:
		return bite.Bite{Upper: none(x.Upper), Lower: none(x.Lower), Path: none(x.Path)}
	}
	return v
}

func none[T any](l []T) []T {
	if len(l) == 0 {
		return nil
	}
	return l
}

// same reports a result that is not the wanted one; nil and empty lists are equal.
func same[T any](t *testing.T, what string, got, wanted T) {
	t.Helper()
	if !reflect.DeepEqual(plain(got), plain(wanted)) {
		t.Errorf("%s: got %s, want %s", what, short(got), short(wanted))
	}
}

// short returns the beginning of a text for a value: some texts have thousands of bytes.
func short(v any) string {
	s := fmt.Sprintf("%+v", v)
	return s[:min(len(s), 300)]
}

// refused reports another error than the wanted one, and a result beside it.
func refused[T any](t *testing.T, what string, got T, e, wanted api.Errno) {
	t.Helper()
	same(t, what, e, wanted)
	if !reflect.ValueOf(plain(got)).IsZero() {
		t.Errorf("%s: got %s beside an error", what, short(got))
	}
}

// fine returns a result, and reports its error.
func fine[T any](t *testing.T) func(T, api.Errno) T {
	return func(got T, e api.Errno) T {
		t.Helper()
		if e != api.OK {
			t.Errorf("error %d of what is right", e)
		}
		return got
	}
}

func at(x, y, z int) api.Cell { return api.Cell{X: x, Y: y, Z: z} }

func plus(a, b api.Cell) api.Cell { return at(a.X+b.X, a.Y+b.Y, a.Z+b.Z) }

func compare(a, b api.Cell) int {
	return cmp.Or(cmp.Compare(a.X, b.X), cmp.Compare(a.Y, b.Y), cmp.Compare(a.Z, b.Z))
}

// setOf returns the set of some cells.
func setOf(cells ...api.Cell) []api.Cell {
	l := slices.Clone(cells)
	slices.SortFunc(l, compare)
	return slices.Compact(l)
}

// chapter returns the bite B of the chapter's examples.
func chapter() bite.Bite {
	return bite.Bite{
		Upper: []api.Cell{at(0, 0, 5), at(3, 0, 5)},
		Lower: []api.Cell{at(0, 0, 0), at(3, 0, 1)},
		Path:  []api.Cell{at(0, 0, 0), at(0, 0, 1), at(0, 0, 2), at(0, 0, 3), at(0, 0, 4)},
	}
}

// single returns a bite with one position: that where nothing is shifted.
func single(upper, lower []api.Cell) bite.Bite {
	return bite.Bite{Upper: upper, Lower: lower, Path: []api.Cell{at(0, 0, 0)}}
}

// swing returns a path of n positions that goes there and back between 0 0 0 and 0 0 1.
func swing(n int) []api.Cell {
	path := make([]api.Cell, n)
	for i := range path {
		path[i].Z = i % 2
	}
	return path
}

// row returns n cells of a row along Z, from 0 on.
func row(n int) []api.Cell {
	var l []api.Cell
	for i := range n {
		l = append(l, at(i/1000, 0, i%1000))
	}
	return l
}

func dice() *rand.Rand { return rand.New(rand.NewPCG(29, 31)) }

// between returns a number from low to high.
func between(r *rand.Rand, low, high int) int { return low + r.IntN(high-low+1) }

// randomSet returns a set of 1 to n cells of a box.
func randomSet(r *rand.Rand, n int, low, high api.Cell) []api.Cell {
	var l []api.Cell
	for range between(r, 1, n) {
		l = append(l, at(between(r, low.X, high.X), between(r, low.Y, high.Y), between(r, low.Z, high.Z)))
	}
	return setOf(l...)
}

// randomPath returns a path of n positions from a first one on.
func randomPath(r *rand.Rand, n int, from api.Cell) []api.Cell {
	path := []api.Cell{from}
	for len(path) < n {
		by := at(between(r, -1, 1), between(r, -1, 1), between(r, -1, 1))
		if by != at(0, 0, 0) {
			path = append(path, plus(path[len(path)-1], by))
		}
	}
	return path
}

// randomBite returns a small bite whose sets are apart, in contact or hit on its path, all of them often.
func randomBite(r *rand.Rand) bite.Bite {
	return bite.Bite{
		Upper: randomSet(r, 10, at(-2, -2, 1), at(2, 2, 4)),
		Lower: randomSet(r, 10, at(-2, -2, -3), at(2, 2, 1)),
		Path:  randomPath(r, between(r, 1, 12), at(between(r, -1, 1), between(r, -1, 1), between(r, -1, 1))),
	}
}

// placed returns the lower cells at a position, by the definition.
func placed(b bite.Bite, position int) []api.Cell {
	var l []api.Cell
	for _, c := range b.Lower {
		l = append(l, plus(c, b.Path[position]))
	}
	return l
}

// areNeighbours reports whether two cells have a face in common.
func areNeighbours(a, b api.Cell) bool {
	return max(a.X-b.X, b.X-a.X)+max(a.Y-b.Y, b.Y-a.Y)+max(a.Z-b.Z, b.Z-a.Z) == 1
}

// common returns the cells that two sets have.
func common(a, b []api.Cell) []api.Cell {
	var l []api.Cell
	for _, c := range a {
		if slices.Contains(b, c) {
			l = append(l, c)
		}
	}
	return l
}

// touching returns the cells of a set that have a neighbour in another one.
func touching(a, b []api.Cell) []api.Cell {
	var l []api.Cell
	for _, c := range a {
		if slices.ContainsFunc(b, func(d api.Cell) bool { return areNeighbours(c, d) }) {
			l = append(l, c)
		}
	}
	return l
}

// stateOf returns the state of a position by the definition.
func stateOf(b bite.Bite, position int) int {
	lower := placed(b, position)
	if len(common(b.Upper, lower)) > 0 {
		return 2
	}
	if len(touching(b.Upper, lower)) > 0 {
		return 1
	}
	return 0
}

// badCells returns cells that are none.
func badCells() []api.Cell {
	return []api.Cell{at(1001, 0, 0), at(-1001, 0, 0), at(0, 1001, 0), at(0, -1001, 0), at(0, 0, 1001), at(0, 0, -1001), at(least, 0, 0), at(0, greatest, 0), at(0, 0, least)}
}

// faulty is a bite with an error.
type faulty struct {
	what string
	b    bite.Bite
	e    api.Errno
}

// faultyBites returns bites with each kind of error.
func faultyBites() []faulty {
	var l []faulty
	add := func(what string, e api.Errno, change func(b *bite.Bite)) {
		b := chapter()
		change(&b)
		l = append(l, faulty{what, b, e})
	}
	add("too many upper cells", api.ErrMany, func(b *bite.Bite) { b.Upper = row(4097) })
	add("too many lower cells", api.ErrMany, func(b *bite.Bite) { b.Lower = row(4097) })
	add("upper cells in a wrong order", api.ErrOrder, func(b *bite.Bite) { slices.Reverse(b.Upper) })
	add("lower cells in a wrong order", api.ErrOrder, func(b *bite.Bite) { slices.Reverse(b.Lower) })
	add("an upper cell twice", api.ErrOrder, func(b *bite.Bite) { b.Upper[1] = b.Upper[0] })
	add("a lower cell twice", api.ErrOrder, func(b *bite.Bite) { b.Lower[1] = b.Lower[0] })
	add("no upper cells", api.ErrEmpty, func(b *bite.Bite) { b.Upper = nil })
	add("no lower cells", api.ErrEmpty, func(b *bite.Bite) { b.Lower = []api.Cell{} })
	add("no path", api.ErrEmpty, func(b *bite.Bite) { b.Path = nil })
	add("too many positions", api.ErrMany, func(b *bite.Bite) { b.Path = swing(257) })
	add("a position twice", api.ErrTwice, func(b *bite.Bite) { b.Path[4] = b.Path[3] })
	add("a position too far", api.ErrOrder, func(b *bite.Bite) { b.Path[4] = at(0, 0, 5) })
	for _, c := range badCells() {
		add("an upper cell that is none", api.ErrRange, func(b *bite.Bite) { b.Upper[0] = c })
		add("a lower cell that is none", api.ErrRange, func(b *bite.Bite) { b.Lower[0] = c })
		add("a position that is none", api.ErrRange, func(b *bite.Bite) { b.Path[0] = c })
	}
	add("a lower cell out of the grid", api.ErrRange, func(b *bite.Bite) { b.Lower[1].Z = 997 })
	return l
}

// faultyPositions returns numbers that no position of a bite with 5 positions has.
func faultyPositions() []int { return []int{-1, 5, 6, 256, least, greatest} }

// faultyNumbers returns numbers that no plane has, and no point.
func faultyNumbers() []int { return []int{-1001, 1001, least, greatest} }
