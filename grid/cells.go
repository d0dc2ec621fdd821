package grid

import (
	"cmp"
	"iter"
	"slices"

	"cusp/api"
)

// place is a cell with a method: package api's own type has none.
type place api.Cell

// compare orders cells by X, then by Y, then by Z.
func (p place) compare(q place) int {
	return cmp.Or(cmp.Compare(p.X, q.X), cmp.Compare(p.Y, q.Y), cmp.Compare(p.Z, q.Z))
}

func compare(a, b api.Cell) int { return place(a).compare(place(b)) }

// sorted returns the cells of a list, ascending, each one once, in new memory.
func sorted(l []api.Cell) []api.Cell {
	places := make([]place, len(l))
	for i, c := range l {
		places[i] = place(c)
	}
	slices.SortFunc(places, place.compare)
	places = slices.Compact(places)
	cells := make([]api.Cell, len(places))
	for i, p := range places {
		cells[i] = api.Cell(p)
	}
	return cells
}

// set keeps the cells of a set.
type set map[api.Cell]bool

func setOf(l []api.Cell) set {
	s := make(set, len(l))
	for _, c := range l {
		s[c] = true
	}
	return s
}

// cells returns the cells of a set, ascending.
func (s set) cells() []api.Cell {
	l := make([]api.Cell, 0, len(s))
	for c := range s {
		l = append(l, c)
	}
	return sorted(l)
}

// checkCell returns the error of a cell, or OK.
func checkCell(c api.Cell) api.Errno { return checkVector(c, api.MaxSize) }

// checkVector returns ErrRange if a coordinate is not from -size to size.
func checkVector(c api.Cell, size int) api.Errno {
	return first(within(c.X, -size, size), within(c.Y, -size, size), within(c.Z, -size, size))
}

// checkEach returns the first error of cells, or OK.
func checkEach(l []api.Cell) api.Errno {
	for _, c := range l {
		if e := checkCell(c); e != api.OK {
			return e
		}
	}
	return api.OK
}

// CheckCells returns the first error of a set of cells, or OK.
func CheckCells(l []api.Cell) api.Errno {
	if len(l) > api.MaxCells {
		return api.ErrMany
	}
	for i, c := range l {
		if e := checkCell(c); e != api.OK {
			return e
		}
		if i > 0 && compare(l[i-1], c) >= 0 {
			return api.ErrOrder
		}
	}
	return api.OK
}

// Sorted returns the set of the cells of a list.
func Sorted(l []api.Cell) ([]api.Cell, api.Errno) {
	if len(l) > api.MaxCells {
		return nil, api.ErrMany
	}
	if e := checkEach(l); e != api.OK {
		return nil, e
	}
	return sorted(l), api.OK
}

// bound returns the box of at least one cell.
func bound(l []api.Cell) Box {
	b := Box{l[0], l[0]}
	for _, c := range l {
		b.Low = api.Cell{X: min(b.Low.X, c.X), Y: min(b.Low.Y, c.Y), Z: min(b.Low.Z, c.Z)}
		b.High = api.Cell{X: max(b.High.X, c.X), Y: max(b.High.Y, c.Y), Z: max(b.High.Z, c.Z)}
	}
	return b
}

// has reports whether a cell is in a box.
func (b Box) has(c api.Cell) bool {
	return b.Low.X <= c.X && c.X <= b.High.X && b.Low.Y <= c.Y && c.Y <= b.High.Y && b.Low.Z <= c.Z && c.Z <= b.High.Z
}

// inside reports whether a cell is in a box, and all its neighbours are, too.
func (b Box) inside(c api.Cell) bool {
	return b.Low.X < c.X && c.X < b.High.X && b.Low.Y < c.Y && c.Y < b.High.Y && b.Low.Z < c.Z && c.Z < b.High.Z
}

// volume returns the number of cells of a box.
func (b Box) volume() int64 {
	return int64(b.High.X-b.Low.X+1) * int64(b.High.Y-b.Low.Y+1) * int64(b.High.Z-b.Low.Z+1)
}

// cells visits the cells of a box, ascending.
func (b Box) cells() iter.Seq[api.Cell] {
	return func(yield func(api.Cell) bool) {
		for x := b.Low.X; x <= b.High.X; x++ {
			for y := b.Low.Y; y <= b.High.Y; y++ {
				for z := b.Low.Z; z <= b.High.Z; z++ {
					if !yield(api.Cell{X: x, Y: y, Z: z}) {
						return
					}
				}
			}
		}
	}
}

// Bound returns the box of a set.
func Bound(l []api.Cell) (Box, api.Errno) {
	if e := CheckCells(l); e != api.OK {
		return Box{}, e
	}
	if len(l) == 0 {
		return Box{}, api.ErrEmpty
	}
	return bound(l), api.OK
}

// Block returns the cells of a box.
func Block(b Box) ([]api.Cell, api.Errno) {
	if e := first(checkCell(b.Low), checkCell(b.High)); e != api.OK {
		return nil, e
	}
	if b.Low.X > b.High.X || b.Low.Y > b.High.Y || b.Low.Z > b.High.Z {
		return nil, api.ErrOrder
	}
	if b.volume() > api.MaxCells {
		return nil, api.ErrMany
	}
	return slices.Collect(b.cells()), api.OK
}

// Union returns the cells of either set.
func Union(a, b []api.Cell) ([]api.Cell, api.Errno) {
	if e := first(CheckCells(a), CheckCells(b)); e != api.OK {
		return nil, e
	}
	all := sorted(slices.Concat(a, b))
	if len(all) > api.MaxCells {
		return nil, api.ErrMany
	}
	return all, api.OK
}

// split returns the cells of a set that are in another one, too, and those that are not.
func split(a, b []api.Cell) (both, alone []api.Cell) {
	for _, c := range a {
		for len(b) > 0 && compare(b[0], c) < 0 {
			b = b[1:]
		}
		if len(b) > 0 && b[0] == c {
			both = append(both, c)
		} else {
			alone = append(alone, c)
		}
	}
	return both, alone
}

// Cut returns the cells of both sets.
func Cut(a, b []api.Cell) ([]api.Cell, api.Errno) {
	if e := first(CheckCells(a), CheckCells(b)); e != api.OK {
		return nil, e
	}
	both, _ := split(a, b)
	return both, api.OK
}

// Less returns the cells of the first set that are not in the second one.
func Less(a, b []api.Cell) ([]api.Cell, api.Errno) {
	if e := first(CheckCells(a), CheckCells(b)); e != api.OK {
		return nil, e
	}
	_, alone := split(a, b)
	return alone, api.OK
}
