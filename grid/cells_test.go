package grid_test

import (
	"slices"
	"testing"

	"cusp/api"
	"cusp/grid"
)

func TestCheckCells(t *testing.T) {
	full := block(t, at(0, 0, 0), at(15, 15, 15))
	for _, row := range []struct {
		what string
		l    []api.Cell
		e    api.Errno
	}{
		{"A", corner(), api.OK}, {"nothing", nil, api.OK}, {"the most cells", full, api.OK}, {"the border", []api.Cell{at(-1000, -1000, -1000), at(1000, 1000, 1000)}, api.OK},
		{"twice", []api.Cell{at(0, 0, 0), at(0, 0, 0)}, api.ErrOrder}, {"Z before Y", []api.Cell{at(0, 1, 0), at(0, 0, 5)}, api.ErrOrder}, {"Y before X", []api.Cell{at(1, 0, 0), at(0, 5, 5)}, api.ErrOrder}, {"Z", []api.Cell{at(0, 0, 1), at(0, 0, 0)}, api.ErrOrder}, {"signs", []api.Cell{at(0, 0, 0), at(-1, 9, 9)}, api.ErrOrder},
		{"X too far", []api.Cell{at(1001, 0, 0)}, api.ErrRange}, {"Y too far", []api.Cell{at(0, -1001, 0)}, api.ErrRange}, {"Z too far", []api.Cell{at(0, 0, 1001)}, api.ErrRange}, {"the least integer", []api.Cell{at(0, 0, least)}, api.ErrRange}, {"the greatest integer", []api.Cell{at(greatest, 0, 0)}, api.ErrRange},
		{"too far, and no order", []api.Cell{at(0, 0, 0), at(-1001, 0, 0)}, api.ErrRange}, {"no order, then too far", []api.Cell{at(0, 0, 1), at(0, 0, 0), at(1001, 0, 0)}, api.ErrOrder}, {"too many", slices.Concat(full, []api.Cell{at(16, 0, 0)}), api.ErrMany}, {"too many that are none", slices.Repeat([]api.Cell{at(2000, 0, 0)}, 4097), api.ErrMany},
	} {
		same(t, row.what, grid.CheckCells(row.l), row.e)
	}
}

func TestSorted(t *testing.T) {
	list := []api.Cell{at(1, 1, 0), at(0, 0, 0), at(1, 0, 0), at(0, 0, 0)}
	sameList(t, "Sorted", fine[[]api.Cell](t)(grid.Sorted(list)), corner())
	same(t, "the list afterwards", list[0], at(1, 1, 0))
	mixed := []api.Cell{at(0, 0, 1), at(0, 1, -1), at(-1, 2, 2), at(0, 0, -1), at(1, -5, -5), at(0, 1, -1), at(0, -1, 3)}
	sameList(t, "Sorted", fine[[]api.Cell](t)(grid.Sorted(mixed)), []api.Cell{at(-1, 2, 2), at(0, -1, 3), at(0, 0, -1), at(0, 0, 1), at(0, 1, -1), at(1, -5, -5)})
	sameList(t, "Sorted", fine[[]api.Cell](t)(grid.Sorted(make([]api.Cell, 4096))), origin())
	sameList(t, "Sorted", fine[[]api.Cell](t)(grid.Sorted(nil)), nil)
	for e, l := range map[api.Errno][]api.Cell{
		api.ErrMany:  slices.Repeat([]api.Cell{at(2000, 0, 0)}, 4097),
		api.ErrRange: {at(5, 5, 5), at(0, 0, 0), at(0, least, 0)},
	} {
		got, gotE := grid.Sorted(l)
		refused(t, "Sorted", got, gotE, e)
	}
	got, e := grid.Sorted(make([]api.Cell, 4097))
	refused(t, "Sorted of the same cells", got, e, api.ErrMany)
}

func TestBound(t *testing.T) {
	same(t, "Bound", fine[grid.Box](t)(grid.Bound([]api.Cell{at(0, 0, 0), at(1, 0, 0), at(1, 1, 0), at(2, -5, 3)})), grid.Box{Low: at(0, -5, 0), High: at(2, 1, 3)})
	same(t, "Bound", fine[grid.Box](t)(grid.Bound([]api.Cell{at(-3, 7, 2), at(-3, 8, 1), at(-2, 6, 9)})), grid.Box{Low: at(-3, 6, 1), High: at(-2, 8, 9)})
	same(t, "Bound", fine[grid.Box](t)(grid.Bound([]api.Cell{at(4, -4, 5)})), grid.Box{Low: at(4, -4, 5), High: at(4, -4, 5)})
	got, e := grid.Bound(nil)
	refused(t, "Bound of nothing", got, e, api.ErrEmpty)
}

func TestBlock(t *testing.T) {
	sameList(t, "Block", block(t, at(0, 0, 0), at(0, 1, 1)), []api.Cell{at(0, 0, 0), at(0, 0, 1), at(0, 1, 0), at(0, 1, 1)})
	sameList(t, "Block", block(t, at(-1, 2, 3), at(0, 2, 3)), []api.Cell{at(-1, 2, 3), at(0, 2, 3)})
	sameList(t, "Block", block(t, at(1000, 1000, 1000), at(1000, 1000, 1000)), []api.Cell{at(1000, 1000, 1000)})
	most := block(t, at(985, -1000, 0), at(1000, -985, 15))
	same(t, "the most cells", len(most), 4096)
	same(t, "the most cells", grid.CheckCells(most), api.OK)
	for _, row := range []struct {
		low, high api.Cell
		e         api.Errno
	}{
		{at(0, 0, 0), at(-1, 1, 1), api.ErrOrder}, {at(0, 0, 0), at(1, -1, 1), api.ErrOrder}, {at(0, 0, 0), at(1, 1, -1), api.ErrOrder}, {at(1, 0, 0), at(0, 500, 500), api.ErrOrder},
		{at(-1001, 0, 0), at(0, 0, 0), api.ErrRange}, {at(0, 0, 0), at(0, 0, 1001), api.ErrRange}, {at(5, 0, 0), at(0, 1001, 0), api.ErrRange}, {at(least, least, least), at(greatest, greatest, greatest), api.ErrRange},
		{at(0, 0, 0), at(16, 15, 15), api.ErrMany}, {at(0, 0, 0), at(0, 16, 240), api.ErrMany}, {at(-1000, -1000, -1000), at(1000, 1000, 1000), api.ErrMany},
	} {
		got, e := grid.Block(grid.Box{Low: row.low, High: row.high})
		refused(t, "Block", got, e, row.e)
	}
}

func TestSetOperations(t *testing.T) {
	other := []api.Cell{at(1, 1, 0), at(2, 2, 2)}
	sameList(t, "Union", fine[[]api.Cell](t)(grid.Union(corner(), other)), []api.Cell{at(0, 0, 0), at(1, 0, 0), at(1, 1, 0), at(2, 2, 2)})
	sameList(t, "Cut", fine[[]api.Cell](t)(grid.Cut(corner(), other)), []api.Cell{at(1, 1, 0)})
	sameList(t, "Less", fine[[]api.Cell](t)(grid.Less(corner(), other)), []api.Cell{at(0, 0, 0), at(1, 0, 0)})
	sameList(t, "Less", fine[[]api.Cell](t)(grid.Less(other, corner())), []api.Cell{at(2, 2, 2)})
	for _, l := range [][]api.Cell{nil, corner()} {
		sameList(t, "Union with nothing", fine[[]api.Cell](t)(grid.Union(l, nil)), l)
		sameList(t, "Union of nothing", fine[[]api.Cell](t)(grid.Union(nil, l)), l)
		sameList(t, "Cut with nothing", fine[[]api.Cell](t)(grid.Cut(l, nil)), nil)
		sameList(t, "Cut of nothing", fine[[]api.Cell](t)(grid.Cut(nil, l)), nil)
		sameList(t, "Less nothing", fine[[]api.Cell](t)(grid.Less(l, nil)), l)
		sameList(t, "nothing Less", fine[[]api.Cell](t)(grid.Less(nil, l)), nil)
		sameList(t, "Less itself", fine[[]api.Cell](t)(grid.Less(l, l)), nil)
	}
	r := dice()
	for range 100 {
		a, b := scattered(r, 2, 2+r.IntN(3)), scattered(r, 2, 2+r.IntN(3))
		inB := func(c api.Cell) bool { return slices.Contains(b, c) }
		alone := slices.DeleteFunc(slices.Clone(a), inB)
		sameList(t, "Less", fine[[]api.Cell](t)(grid.Less(a, b)), alone)
		sameList(t, "Cut", fine[[]api.Cell](t)(grid.Cut(a, b)), without(a, alone...))
		sameList(t, "Union", fine[[]api.Cell](t)(grid.Union(a, b)), ordered(slices.Concat(alone, b)))
	}
}

func TestErrorsOfSetOperations(t *testing.T) {
	for what, of := range map[string]func(a, b []api.Cell) ([]api.Cell, api.Errno){"Union": grid.Union, "Cut": grid.Cut, "Less": grid.Less} {
		for e, l := range badSets() {
			got, gotE := of(l, corner())
			refused(t, what, got, gotE, e)
			got, gotE = of(corner(), l)
			refused(t, what, got, gotE, e)
			for _, second := range badSets() {
				got, gotE = of(l, second)
				refused(t, what, got, gotE, e)
			}
		}
	}
	full := block(t, at(0, 0, 0), at(15, 15, 15))
	got, e := grid.Union(full, []api.Cell{at(-1, 0, 0)})
	refused(t, "Union of 4097 cells", got, e, api.ErrMany)
	same(t, "Union of the same cells", len(fine[[]api.Cell](t)(grid.Union(full, full))), 4096)
	same(t, "Union of 4096 cells", len(fine[[]api.Cell](t)(grid.Union(full[1:], full[:1]))), 4096)
}

// setFunctions returns the functions whose first argument is a set, with other arguments that are right.
func setFunctions() map[string]func(l []api.Cell) (any, api.Errno) {
	return map[string]func(l []api.Cell) (any, api.Errno){
		"Bound":    func(l []api.Cell) (any, api.Errno) { return boxed(grid.Bound(l)) },
		"Union":    func(l []api.Cell) (any, api.Errno) { return boxed(grid.Union(l, nil)) },
		"Cut":      func(l []api.Cell) (any, api.Errno) { return boxed(grid.Cut(l, corner())) },
		"Less":     func(l []api.Cell) (any, api.Errno) { return boxed(grid.Less(l, nil)) },
		"Shift":    func(l []api.Cell) (any, api.Errno) { return boxed(grid.Shift(l, at(0, 0, 0))) },
		"Turn":     func(l []api.Cell) (any, api.Errno) { return boxed(grid.Turn(l, 0, at(0, 0, 0))) },
		"Mirror":   func(l []api.Cell) (any, api.Errno) { return boxed(grid.Mirror(l, 0, 0)) },
		"Parts":    func(l []api.Cell) (any, api.Errno) { return boxed(grid.Parts(l)) },
		"Shell":    func(l []api.Cell) (any, api.Errno) { return boxed(grid.Shell(l)) },
		"Grow":     func(l []api.Cell) (any, api.Errno) { return boxed(grid.Grow(l, 0)) },
		"Shrink":   func(l []api.Cell) (any, api.Errno) { return boxed(grid.Shrink(l, 0)) },
		"Apart":    func(l []api.Cell) (any, api.Errno) { return boxed(grid.Apart(l, corner())) },
		"Counts":   func(l []api.Cell) (any, api.Errno) { return boxed(grid.Counts(l)) },
		"Cavities": func(l []api.Cell) (any, api.Errno) { return boxed(grid.Cavities(l)) },
		"Tunnels":  func(l []api.Cell) (any, api.Errno) { return boxed(grid.Tunnels(l)) },
		"Path":     func(l []api.Cell) (any, api.Errno) { return boxed(grid.Path(l, at(0, 0, 0), at(1, 1, 0))) },
	}
}

func boxed[T any](v T, e api.Errno) (any, api.Errno) { return v, e }

func TestErrorsOfSets(t *testing.T) {
	for what, of := range setFunctions() {
		for e, l := range badSets() {
			got, gotE := of(l)
			refused(t, what, got, gotE, e)
		}
	}
}

// A change of a result changes no argument, and no other result.
func TestMemory(t *testing.T) {
	spoil := func(l []api.Cell) {
		l = append(l, at(8, 8, 8))
		for i := range l {
			l[i] = at(9, 9, 9)
		}
	}
	for what, of := range setFunctions() {
		l := make([]api.Cell, 3, 10)
		copy(l, corner())
		got, e := of(l)
		same(t, what, e, api.OK)
		switch v := got.(type) {
		case []api.Cell:
			spoil(v)
		case [][]api.Cell:
			for _, p := range v {
				spoil(p)
			}
		}
		sameList(t, "the argument of "+what, l, corner())
		sameList(t, "the memory of "+what, l[3:4], []api.Cell{{}})
	}
	p := fine[[][]api.Cell](t)(grid.Parts([]api.Cell{at(0, 0, 0), at(2, 0, 0), at(4, 0, 0)}))
	for _, l := range p[:2] {
		spoil(l)
	}
	sameList(t, "another part", p[2], []api.Cell{at(4, 0, 0)})
	a, b := corner(), corner()
	spoil(fine[[]api.Cell](t)(grid.Union(nil, a)))
	spoil(fine[[]api.Cell](t)(grid.Cut(a, b)))
	sameList(t, "the argument of Union", a, corner())
	sameList(t, "the argument of Cut", b, corner())
}
