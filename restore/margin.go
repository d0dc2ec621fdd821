package restore

import (
	"slices"

	"cusp/api"
	"cusp/grid"
)

// square returns the cells of one height whose X and Y differ by at most 1 each from those of a cell.
func square(c api.Cell) []api.Cell {
	var l []api.Cell
	for x := -1; x <= 1; x++ {
		for y := -1; y <= 1; y++ {
			l = append(l, plus(c, api.Cell{X: x, Y: y}))
		}
	}
	return l
}

// Margin returns the cells around a stump at a height.
func Margin(stump []api.Cell, height int) ([]api.Cell, api.Errno) {
	if e := first(grid.CheckCells(stump), checkCoordinate(height)); e != api.OK {
		return nil, e
	}
	here := slices.Collect(where(stump, func(c api.Cell) bool { return c.Z == height }))
	if len(here) == 0 {
		return nil, api.ErrNone
	}
	inside, margin := setOf(here), map[api.Cell]bool{}
	for _, c := range here {
		for _, n := range square(c) {
			if !inside[n] {
				margin[n] = true
			}
		}
	}
	// It may have more cells than a set, so package grid is not asked about it.
	l := ascending(margin)
	isNone := func(c api.Cell) bool { return checkCell(c) != api.OK }
	if slices.ContainsFunc(l, isNone) {
		return nil, api.ErrRange
	}
	return l, api.OK
}

// isClosed reports whether a set of one height is a closed line.
func isClosed(l []api.Cell) bool {
	set := setOf(l)
	isOnLine := func(c api.Cell) bool { return besides(c, set) == 2 }
	return isWhole(l) && len(slices.Collect(where(l, isOnLine))) == len(l)
}

// CheckMargin returns OK for cells that are a closed line.
func CheckMargin(l []api.Cell) api.Errno {
	if e := checkSome(l); e != api.OK {
		return e
	}
	return firstFault(
		fault{api.ErrShape, func() bool { return slices.ContainsFunc(l, func(c api.Cell) bool { return c.Z != l[0].Z }) }},
		fault{api.ErrOpen, func() bool { return !isClosed(l) }},
	)
}
