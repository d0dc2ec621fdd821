package cast

import (
	"slices"

	"cusp/api"
	"cusp/grid"
)

// first returns the first error of several, or OK.
func first(errors ...api.Errno) api.Errno {
	for _, e := range errors {
		if e != api.OK {
			return e
		}
	}
	return api.OK
}

// within returns an error for an integer that is not from low to high.
func within(n, low, high int, e api.Errno) api.Errno {
	if n < low || n > high {
		return e
	}
	return api.OK
}

// checkCell returns the error of a cell, or OK.
func checkCell(c api.Cell) api.Errno { return grid.CheckCells([]api.Cell{c}) }

func checkName(name string) api.Errno {
	if !grid.IsName(name) {
		return api.ErrName
	}
	return api.OK
}

// checkNew returns the error of the name of an element of a list: none, or one that an element before it has.
func checkNew[T named](l []T, i int) api.Errno {
	name := l[i].name()
	if e := checkName(name); e != api.OK {
		return e
	}
	if find(l[:i], name) >= 0 {
		return api.ErrTwice
	}
	return api.OK
}

// checkOwn returns the error of the cells of a tooth, or OK.
func checkOwn(l []api.Cell) api.Errno {
	if len(l) == 0 {
		return api.ErrEmpty
	}
	return grid.CheckCells(l)
}

// checkAxis returns the error of the axis of a tooth, or OK.
func checkAxis(v api.Cell) api.Errno {
	// The numbers of an axis have the range of those of a cell.
	if e := checkCell(v); e != api.OK {
		return e
	}
	if v == (api.Cell{}) {
		return api.ErrZero
	}
	return api.OK
}

// checkMarks returns the first error of the landmarks of a tooth, or OK.
func checkMarks(t Tooth) api.Errno {
	if len(t.Marks) > MaxMarks {
		return api.ErrMany
	}
	for i, m := range t.Marks {
		if e := checkNew(t.Marks, i); e != api.OK {
			return e
		}
		if !slices.Contains(t.Cells, m.At) {
			return api.ErrUnknown
		}
	}
	return api.OK
}

// checkTeeth returns the first error of teeth, or OK.
func checkTeeth(l []Tooth) api.Errno {
	if len(l) > api.MaxTeeth {
		return api.ErrMany
	}
	for i, t := range l {
		if e := first(checkNew(l, i), checkOwn(t.Cells), checkAxis(t.Axis), checkMarks(t)); e != api.OK {
			return e
		}
	}
	return api.OK
}

// checkApart returns ErrMany for sets with too many cells together, ErrHit if two of them have a cell in common, or OK.
func checkApart(sets [][]api.Cell) api.Errno {
	sum := 0
	for _, l := range sets {
		sum += len(l)
	}
	if sum > api.MaxCells {
		return api.ErrMany
	}
	if len(setOf(sets...)) < sum {
		return api.ErrHit
	}
	return api.OK
}

// CheckCast returns the first error of a cast, or OK.
func CheckCast(c Cast) api.Errno {
	return first(
		checkName(c.Name),
		checkTeeth(c.Teeth),
		grid.CheckCells(c.Gum),
		grid.CheckCells(c.Base),
		checkApart(c.sets()),
	)
}
