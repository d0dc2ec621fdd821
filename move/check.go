package move

import (
	"cusp/api"
	"cusp/grid"
)

// first returns the first error of several, or OK.
func first(errors ...api.Errno) api.Errno {
	for _, e := range errors {
		if e != api.OK {
			return e
		}
	}
	return api.OK
}

// when returns an error if there is a reason for it, or OK.
func when(is bool, e api.Errno) api.Errno {
	if is {
		return e
	}
	return api.OK
}

// within returns ErrRange for an integer that is not from low to high.
func within(n, low, high int) api.Errno { return when(n < low || n > high, api.ErrRange) }

func checkCell(c api.Cell) api.Errno {
	return first(
		within(c.X, -api.MaxSize, api.MaxSize),
		within(c.Y, -api.MaxSize, api.MaxSize),
		within(c.Z, -api.MaxSize, api.MaxSize),
	)
}

// check returns the error of a place, or OK.
func (p Place) check() api.Errno { return first(checkCell(p.At), within(p.Turn, 0, 3)) }

// checkAlone returns the first error of a tooth that does not depend on the other ones but for its name, or OK.
func (t Tooth) checkAlone(isTaken bool) api.Errno {
	return first(
		when(!grid.IsName(t.Name), api.ErrName),
		when(isTaken, api.ErrTwice),
		grid.CheckCells(t.Cells),
		when(len(t.Cells) == 0, api.ErrEmpty),
		t.From.check(),
		t.To.check(),
		when(t.Fixed && t.From != t.To, api.ErrRule),
	)
}

// checkTeeth returns the first error of teeth, wherever they are, or OK.
func checkTeeth(l []Tooth) api.Errno {
	if len(l) > MaxMoved {
		return api.ErrMany
	}
	names := map[string]bool{}
	for _, t := range l {
		if e := t.checkAlone(names[t.Name]); e != api.OK {
			return e
		}
		names[t.Name] = true
	}
	return api.OK
}

// checkParts returns the first error of a case that has nothing to do with where its teeth are in the box, or OK.
func (c Case) checkParts() api.Errno {
	return first(
		checkCell(c.Low),
		checkCell(c.High),
		when(c.Low.X > c.High.X || c.Low.Y > c.High.Y || c.Low.Z > c.High.Z, api.ErrOrder),
		within(c.Shift, 0, MaxShift),
		within(c.Turn, 0, 2),
		within(c.Gap, 0, MaxGap),
		checkTeeth(c.Teeth),
	)
}

// checkNumber returns ErrUnknown for the number of a tooth that does not exist.
func (c Case) checkNumber(tooth int) api.Errno {
	return when(tooth < 0 || tooth >= len(c.Teeth), api.ErrUnknown)
}
