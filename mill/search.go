package mill

import (
	"slices"

	"cusp/api"
)

// cellBits is a set of cells of a blank of at most 64 cells: a bit for each cell, as they are ordered.
type cellBits uint64

// spot is a place at which a part is in the blank, with the cells that it has there, and those that no other part may have then.
type spot struct {
	place  Place
	cells  cellBits
	barred cellBits
}

// table is a nest with the spots of each part, as their places are ordered.
type table struct {
	Nest
	spots [][]spot
}

// bits returns the cells of the blank that are at most so many steps apart from one of some cells.
func (n Nest) bits(cells []api.Cell, most int) cellBits {
	var set cellBits
	for c := range cellsOf(n.Blank) {
		if isNear(cells, []api.Cell{c}, most) {
			set |= 1 << index(n.Blank, c)
		}
	}
	return set
}

// spotsOf returns the spots of a part.
func (n Nest) spotsOf(part []api.Cell) []spot {
	var shapes [4][]api.Cell
	for quarters := range shapes {
		shapes[quarters] = placed(part, Place{Quarters: quarters})
	}
	var places []Place
	for at := range cellsOf(n.Blank) {
		for quarters, shape := range shapes {
			if isIn(n.Blank, shifted(shape, at)...) {
				places = append(places, Place{quarters, at})
			}
		}
	}
	slices.SortFunc(places, Place.compare)
	return listOf(places, func(p Place) spot {
		there := shifted(shapes[p.Quarters], p.At)
		return spot{p, n.bits(there, 0), n.bits(there, n.Gap)}
	})
}

// tableOf returns the table of a nest, or the error of the nest, or that of a nest that is too large for a search.
func tableOf(n Nest) (table, api.Errno) {
	if e := first(n.check(), when(len(n.Parts) > MaxNest || volume(n.Blank) > MaxSearch, api.ErrLimit)); e != api.OK {
		return table{}, e
	}
	return table{n, listOf(n.Parts, n.spotsOf)}, api.OK
}

// search returns the first list of spots, one of each of some lists, that are good together, if there is one.
func search(lists ...[]spot) ([]spot, bool) {
	var found []spot
	var fill func() bool
	fill = func() bool {
		if len(found) == len(lists) {
			return true
		}
	tries:
		for _, s := range lists[len(found)] {
			for _, before := range found {
				if before.barred&s.cells != 0 {
					continue tries
				}
			}
			found = append(found, s)
			if fill() {
				return true
			}
			found = found[:len(found)-1]
		}
		return false
	}
	isFound := fill()
	return found, isFound
}

// Find returns the first places of parts.
func Find(n Nest) ([]Place, api.Errno) {
	t, e := tableOf(n)
	if e != api.OK {
		return nil, e
	}
	found, isFound := search(t.spots...)
	if !isFound {
		return nil, api.ErrInfeasible
	}
	return listOf(found, func(s spot) Place { return s.place }), api.OK
}
