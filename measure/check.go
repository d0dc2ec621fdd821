package measure

import (
	"cusp/api"
	"cusp/grid"
)

// first returns the first error of several, or OK.
func first(errors ...api.Errno) api.Errno {
	for _, e := range errors {
		if e != api.OK {
			return e
		}
	}
	return api.OK
}

// within returns ErrRange for an integer that is not from -size to size.
func within(n, size int) api.Errno {
	if n < -size || n > size {
		return api.ErrRange
	}
	return api.OK
}

// checkVector returns ErrRange if a number of a vector is not from -size to size.
func checkVector(v api.Cell, size int) api.Errno {
	return first(within(v.X, size), within(v.Y, size), within(v.Z, size))
}

// checkCell returns the error of a cell, or OK.
func checkCell(c api.Cell) api.Errno { return checkVector(c, api.MaxSize) }

// checkShift returns the error of a vector by which landmarks are moved, or OK.
func checkShift(by api.Cell) api.Errno { return checkVector(by, 2*api.MaxSize) }

func checkPlane(plane int) api.Errno { return within(plane, MaxPlane) }

func checkName(name string) api.Errno {
	if !grid.IsName(name) {
		return api.ErrName
	}
	return api.OK
}

// names has the names of a list, with their numbers.
type names map[string]int

// add puts down the next name of a list, or returns its error.
func (n names) add(name string) api.Errno {
	if e := checkName(name); e != api.OK {
		return e
	}
	if _, has := n[name]; has {
		return api.ErrTwice
	}
	n[name] = len(n)
	return api.OK
}

// CheckArch returns the first error of an arch, or OK.
func CheckArch(a Arch) api.Errno {
	if len(a.Teeth) > api.MaxTeeth {
		return api.ErrMany
	}
	before := names{}
	for _, t := range a.Teeth {
		if e := first(before.add(t.Name), checkCell(t.Left), checkCell(t.Right), checkCell(t.Tip)); e != api.OK {
			return e
		}
	}
	return api.OK
}

// checkTooth returns ErrUnknown for a number that no tooth has.
func (a Arch) checkTooth(i int) api.Errno {
	if i < 0 || i >= len(a.Teeth) {
		return api.ErrUnknown
	}
	return api.OK
}

// checkRange returns the error of a range, or OK.
func (a Arch) checkRange(from, to int) api.Errno {
	if e := first(a.checkTooth(from), a.checkTooth(to)); e != api.OK {
		return e
	}
	if to < from {
		return api.ErrOrder
	}
	return api.OK
}

// checkSome returns ErrNone for an arch without teeth.
func (a Arch) checkSome() api.Errno {
	if len(a.Teeth) == 0 {
		return api.ErrNone
	}
	return api.OK
}

// checkLine returns the first error of a line, or OK.
func checkLine(line []api.Cell) api.Errno {
	if len(line) > api.MaxList {
		return api.ErrMany
	}
	for _, c := range line {
		if e := checkCell(c); e != api.OK {
			return e
		}
	}
	return api.OK
}

// checkChanges returns the first error of changes, or OK.
func checkChanges(l []Change) api.Errno {
	if len(l) > api.MaxTeeth {
		return api.ErrMany
	}
	before := names{}
	for _, c := range l {
		if e := first(before.add(c.Name), checkShift(c.By)); e != api.OK {
			return e
		}
	}
	return api.OK
}
