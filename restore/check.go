package restore

import (
	"cusp/api"
	"cusp/grid"
	"cusp/insert"
)

// first returns the first error of several, or OK.
func first(errors ...api.Errno) api.Errno {
	for _, e := range errors {
		if e != api.OK {
			return e
		}
	}
	return api.OK
}

// within returns ErrRange for an integer that is not from low to high.
func within(n, low, high int) api.Errno {
	if n < low || n > high {
		return api.ErrRange
	}
	return api.OK
}

// checkVector returns ErrRange for a vector with a number that is not from -size to size.
func checkVector(c api.Cell, size int) api.Errno {
	return first(within(c.X, -size, size), within(c.Y, -size, size), within(c.Z, -size, size))
}

func checkCell(c api.Cell) api.Errno { return checkVector(c, api.MaxSize) }

// checkEach returns ErrMany for a list of more than most elements, the error of the first one that has an error, or OK.
func checkEach[T any](l []T, most int, check func(T) api.Errno) api.Errno {
	if len(l) > most {
		return api.ErrMany
	}
	for _, x := range l {
		if e := check(x); e != api.OK {
			return e
		}
	}
	return api.OK
}

// checkSome returns the error of a set that has to have cells, or OK.
func checkSome(l []api.Cell) api.Errno {
	if e := grid.CheckCells(l); e != api.OK {
		return e
	}
	if len(l) == 0 {
		return api.ErrEmpty
	}
	return api.OK
}

// checkBorder returns ErrRange for a set with a cell at the border of the grid: it would have neighbours that are no cells.
func checkBorder(l []api.Cell) api.Errno {
	return checkEach(l, api.MaxCells, func(c api.Cell) api.Errno { return checkVector(c, api.MaxSize-1) })
}

func checkCoordinate(z int) api.Errno { return within(z, -api.MaxSize, api.MaxSize) }

// CheckPlan returns the first error of a plan, or OK.
func CheckPlan(p Plan) api.Errno {
	if e := first(checkSome(p.Stump), checkSome(p.Shape), grid.CheckCells(p.Others)); e != api.OK {
		return e
	}
	return first(
		checkBorder(p.Shape),
		within(p.Gap, 0, MaxGap),
		within(p.Wall, 0, MaxWall),
		checkCoordinate(p.Margin),
		insert.CheckDirection(p.Way),
	)
}

// checkWith returns the first error of a plan and of a part, or OK.
func checkWith(p Plan, part []api.Cell) api.Errno { return first(CheckPlan(p), grid.CheckCells(part)) }

// checkPlans returns the first error of plans, or OK.
func checkPlans(l []Plan) api.Errno {
	if len(l) == 0 {
		return api.ErrEmpty
	}
	return checkEach(l, api.MaxExact, CheckPlan)
}
