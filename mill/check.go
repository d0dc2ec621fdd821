package mill

import (
	"cusp/api"
	"cusp/grid"
)

// first returns the first error of several, or OK.
func first(errors ...api.Errno) api.Errno {
	for _, e := range errors {
		if e != api.OK {
			return e
		}
	}
	return api.OK
}

// when returns an error if there is a reason for it, or OK.
func when(is bool, e api.Errno) api.Errno {
	if is {
		return e
	}
	return api.OK
}

// within returns ErrRange for an integer that is not from low to high.
func within(n, low, high int) api.Errno { return when(n < low || n > high, api.ErrRange) }

func checkCell(c api.Cell) api.Errno {
	return first(
		within(c.X, -api.MaxSize, api.MaxSize),
		within(c.Y, -api.MaxSize, api.MaxSize),
		within(c.Z, -api.MaxSize, api.MaxSize),
	)
}

func checkBlank(b grid.Box) api.Errno {
	_, e := grid.Block(b)
	return e
}

// checkInside returns the error of a set, or ErrRule if a cell of it is not in a blank.
func checkInside(l []api.Cell, b grid.Box) api.Errno {
	return first(grid.CheckCells(l), when(!isIn(b, l...), api.ErrRule))
}

// CheckTool returns the first error of a tool, or OK.
func CheckTool(t Tool) api.Errno {
	_, isKnown := kinds()[t.Kind]
	return first(when(!isKnown, api.ErrKind), within(t.Radius, 0, MaxRadius))
}

// check returns the error of an operation, or OK.
func (o Op) check() api.Errno {
	return first(CheckTool(o.Tool), within(o.Dir, 0, len(directions)-1))
}

// CheckSetup returns the first error of a part in a blank, or OK.
func CheckSetup(s Setup) api.Errno {
	return first(checkBlank(s.Blank), checkInside(s.Part, s.Blank))
}

// checkOps returns the first error of a setup and of operations, or OK.
func checkOps(s Setup, l []Op) api.Errno {
	if e := first(CheckSetup(s), when(len(l) > MaxOps, api.ErrMany)); e != api.OK {
		return e
	}
	return first(listOf(l, Op.check)...)
}

// check returns the error of a place, or OK.
func (p Place) check() api.Errno { return first(within(p.Quarters, 0, 3), checkCell(p.At)) }

// check returns the error of a nest, or OK.
func (n Nest) check() api.Errno {
	if e := first(checkBlank(n.Blank), when(len(n.Parts) > api.MaxParts, api.ErrMany)); e != api.OK {
		return e
	}
	for _, l := range n.Parts {
		if e := first(grid.CheckCells(l), when(len(l) == 0, api.ErrEmpty)); e != api.OK {
			return e
		}
	}
	return within(n.Gap, 0, api.MaxGrow)
}

// checkPlaces returns the first error of a list of a place for each part, or OK.
func (n Nest) checkPlaces(l []Place) api.Errno {
	if len(l) != len(n.Parts) {
		return api.ErrShape
	}
	return first(listOf(l, Place.check)...)
}
