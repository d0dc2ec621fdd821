package insert

import (
	"cusp/api"
	"cusp/grid"
)

// first returns the first error of several, or OK.
func first(errors ...api.Errno) api.Errno {
	for _, e := range errors {
		if e != api.OK {
			return e
		}
	}
	return api.OK
}

// within returns ErrRange for an integer that is not from low to high.
func within(n, low, high int) api.Errno {
	if n < low || n > high {
		return api.ErrRange
	}
	return api.OK
}

// checkWall returns the error of a wall, or OK.
func checkWall(w api.Cell) api.Errno {
	for _, n := range [3]int{w.X, w.Y, w.Z} {
		if e := within(n, -api.MaxSize, api.MaxSize); e != api.OK {
			return e
		}
	}
	if w == (api.Cell{}) {
		return api.ErrZero
	}
	return api.OK
}

// checkEach returns ErrMany for a list of more than most elements, the error of the first one that has an error, or OK.
func checkEach[T any](l []T, most int, check func(T) api.Errno) api.Errno {
	if len(l) > most {
		return api.ErrMany
	}
	for _, x := range l {
		if e := check(x); e != api.OK {
			return e
		}
	}
	return api.OK
}

// CheckWalls returns the first error of walls, or OK.
func CheckWalls(walls []api.Cell) api.Errno { return checkEach(walls, MaxWalls, checkWall) }

func checkGroups(groups [][]api.Cell) api.Errno { return checkEach(groups, MaxGroups, CheckWalls) }

func checkParts(parts [][]api.Cell) api.Errno { return checkEach(parts, MaxGroups, grid.CheckCells) }

func checkSteep(steep int) api.Errno { return within(steep, 1, MaxSteep) }

func checkTilt(t Tilt) api.Errno { return first(grid.Check(t.X), grid.Check(t.Y)) }

func checkFan(n int) api.Errno { return within(n, 1, MaxFan) }

// CheckDirection returns the error of a direction, or OK.
func CheckDirection(d api.Cell) api.Errno {
	return first(within(d.X, -MaxSteep, MaxSteep), within(d.Y, -MaxSteep, MaxSteep), within(d.Z, 1, MaxSteep))
}

// checkShape returns the error of the lengths of the lists of a proof, or OK.
func (p Proof) checkShape() api.Errno {
	switch {
	case len(p.Weights) != len(p.Walls):
		return api.ErrShape
	case len(p.Walls) == 0:
		return api.ErrEmpty
	case len(p.Walls) > mostOfProof:
		return api.ErrMany
	default:
		return api.OK
	}
}

// checkNumber returns the error of the number of a wall, of several that a proof has, or OK.
func (p Proof) checkNumber(i, walls int) api.Errno {
	n := p.Walls[i]
	if n < 0 || n >= walls {
		return api.ErrUnknown
	}
	if i > 0 && n <= p.Walls[i-1] {
		return api.ErrOrder
	}
	return api.OK
}

// checkWeight returns the error of a weight, or OK.
func checkWeight(weight api.Rat) api.Errno {
	if e := grid.Check(weight); e != api.OK {
		return e
	}
	if order, _ := grid.Order(weight, "0"); order <= 0 {
		return api.ErrRange
	}
	return api.OK
}

// check returns the first error of a proof about so many walls, but for what it proves, or OK.
func (p Proof) check(walls int) api.Errno {
	if e := p.checkShape(); e != api.OK {
		return e
	}
	for i, weight := range p.Weights {
		if e := first(p.checkNumber(i, walls), checkWeight(weight)); e != api.OK {
			return e
		}
	}
	return api.OK
}
