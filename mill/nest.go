package mill

import (
	"cmp"
	"slices"

	"cusp/api"
	"cusp/grid"
)

// quarterTurns are the numbers of the turns by 0 to 3 quarters about a vertical line, as grid counts them: x, y, z; -y, x, z; -x, -y, z; y, -x, z.
var quarterTurns = [4]int{0, 12, 5, 9}

// compare orders places by their quarters, then by At.
func (p Place) compare(q Place) int {
	return cmp.Or(cmp.Compare(p.Quarters, q.Quarters), compareCells(p.At, q.At))
}

// shifted returns cells that are moved by a vector, also beyond the grid.
func shifted(l []api.Cell, by api.Cell) []api.Cell {
	return listOf(l, func(c api.Cell) api.Cell { return plus(c, by) })
}

// placed returns a part without errors at a place, also beyond the grid, ascending.
func placed(l []api.Cell, p Place) []api.Cell {
	turned, _ := grid.Turn(l, quarterTurns[p.Quarters], api.Cell{})
	box, _ := grid.Bound(turned)
	return shifted(turned, minus(p.At, box.Low))
}

// Placed returns a part at a place.
func Placed(l []api.Cell, p Place) ([]api.Cell, api.Errno) {
	if e := first(grid.CheckCells(l), p.check(), when(len(l) == 0, api.ErrEmpty)); e != api.OK {
		return nil, e
	}
	there := placed(l, p)
	if e := first(listOf(there, checkCell)...); e != api.OK {
		return nil, e
	}
	return there, api.OK
}

// isNear reports whether a cell of a list is at most so many steps apart from one of another list.
func isNear(a, b []api.Cell, most int) bool {
	return slices.ContainsFunc(a, func(c api.Cell) bool {
		return slices.ContainsFunc(b, func(d api.Cell) bool { return steps(c, d) <= most })
	})
}

// put returns all parts at places, part by part, or the first error of a nest and of the places.
func put(n Nest, l []Place) ([][]api.Cell, api.Errno) {
	if e := first(n.check(), n.checkPlaces(l)); e != api.OK {
		return nil, e
	}
	var parts [][]api.Cell
	var taken []api.Cell
	for i, p := range l {
		there := placed(n.Parts[i], p)
		e := first(
			when(!isIn(n.Blank, there...), api.ErrRule),
			when(isNear(there, taken, 0), api.ErrHit),
			when(isNear(there, taken, n.Gap), api.ErrGap),
		)
		if e != api.OK {
			return nil, e
		}
		parts, taken = append(parts, there), append(taken, there...)
	}
	return parts, api.OK
}

// CheckNest returns the first error of places of parts, or OK.
func CheckNest(n Nest, l []Place) api.Errno {
	_, e := put(n, l)
	return e
}
