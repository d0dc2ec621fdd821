package bite

import (
	"slices"

	"cusp/api"
	"cusp/grid"
)

// first returns the first error of several, or OK.
func first(errors ...api.Errno) api.Errno {
	for _, e := range errors {
		if e != api.OK {
			return e
		}
	}
	return api.OK
}

// within returns ErrRange for an integer that is not from low to high.
func within(n, low, high int) api.Errno {
	if n < low || n > high {
		return api.ErrRange
	}
	return api.OK
}

// checkNumber returns the error of a plane, or of a number of a point, or OK.
func checkNumber(n int) api.Errno { return within(n, -api.MaxSize, api.MaxSize) }

// checkVector returns ErrRange if a number of a vector is not from -size to size.
func checkVector(v api.Cell, size int) api.Errno {
	return first(within(v.X, -size, size), within(v.Y, -size, size), within(v.Z, -size, size))
}

// checkCell returns the error of a cell, or of a position alone, or OK.
func checkCell(c api.Cell) api.Errno { return checkVector(c, api.MaxSize) }

// checkStep returns the error of a position behind another one, or OK.
func checkStep(from, to api.Cell) api.Errno {
	if from == to {
		return api.ErrTwice
	}
	if checkVector(shiftBack(from)(to), 1) != api.OK {
		return api.ErrOrder
	}
	return api.OK
}

// CheckPath returns the first error of a path, or OK.
func CheckPath(l []api.Cell) api.Errno {
	if len(l) == 0 {
		return api.ErrEmpty
	}
	if len(l) > MaxPath {
		return api.ErrMany
	}
	for i, c := range l {
		if e := checkCell(c); e != api.OK {
			return e
		}
		if i == 0 {
			continue
		}
		if e := checkStep(l[i-1], c); e != api.OK {
			return e
		}
	}
	return api.OK
}

// checkSome returns the error of a set of at least one cell, or OK.
func checkSome(l []api.Cell) api.Errno {
	if e := grid.CheckCells(l); e != api.OK {
		return e
	}
	if len(l) == 0 {
		return api.ErrEmpty
	}
	return api.OK
}

// checkShifts returns ErrRange if a set, shifted by one of some vectors, has a cell that is none.
func checkShifts(l []api.Cell, vectors ...api.Cell) api.Errno {
	box, e := grid.Bound(l)
	if e != api.OK {
		return e
	}
	for _, by := range vectors {
		if e := first(checkCell(plus(box.Low, by)), checkCell(plus(box.High, by))); e != api.OK {
			return e
		}
	}
	return api.OK
}

// CheckBite returns the first error of a bite, or OK.
func CheckBite(b Bite) api.Errno {
	if e := first(checkSome(b.Upper), checkSome(b.Lower), CheckPath(b.Path)); e != api.OK {
		return e
	}
	return checkShifts(b.Lower, b.Path...)
}

// checkAt returns the error of a bite, ErrUnknown for a number that no position of it has, or OK.
func checkAt(b Bite, position int) api.Errno {
	if e := CheckBite(b); e != api.OK {
		return e
	}
	if position < 0 || position >= len(b.Path) {
		return api.ErrUnknown
	}
	return api.OK
}

// checkMember returns ErrUnknown for a position that is not one of some.
func checkMember(l []api.Cell, at api.Cell) api.Errno {
	if !slices.Contains(l, at) {
		return api.ErrUnknown
	}
	return api.OK
}
