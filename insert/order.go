package insert

import (
	"slices"

	"cusp/api"
	"cusp/grid"
)

// hold is what keeps a part from being taken out: the base, or other parts.
type hold struct {
	byBase  bool
	byParts []bool
}

// holdsOf returns the hold of each part.
func holdsOf(parts [][]api.Cell, base []api.Cell, d api.Cell) []hold {
	below := obstacleOf(base)
	holds := make([]hold, len(parts))
	for i, part := range parts {
		holds[i] = hold{below.holds(part, d), make([]bool, len(parts))}
	}
	for i, part := range parts {
		around := obstacleOf(part)
		for k, other := range parts {
			holds[k].byParts[i] = i != k && around.holds(other, d)
		}
	}
	return holds
}

// keeps reports whether a part cannot be taken out as long as some parts are there.
func (h hold) keeps(there []int) bool {
	return h.byBase || slices.ContainsFunc(there, func(n int) bool { return h.byParts[n] })
}

// without returns a list without the element at a place, in new memory.
func without(l []int, at int) []int {
	left := slices.Clone(l)
	return slices.Delete(left, at, at+1)
}

// numbers returns the numbers below n.
func numbers(n int) []int {
	var l []int
	for i := range n {
		l = append(l, i)
	}
	return l
}

// takeOut returns the numbers of parts in the order in which they are taken out, and those that are locked.
func takeOut(holds []hold) (order, locked []int) {
	left := numbers(len(holds))
	for {
		at := slices.IndexFunc(left, func(n int) bool { return !holds[n].keeps(left) })
		if at < 0 {
			return order, left
		}
		order, left = append(order, left[at]), without(left, at)
	}
}

// checkAssembly returns the first error of parts, a base and a direction, or OK.
func checkAssembly(parts [][]api.Cell, base []api.Cell, d api.Cell) api.Errno {
	return first(checkParts(parts), grid.CheckCells(base), CheckDirection(d))
}

// Order returns an order in which parts can be taken out.
func Order(parts [][]api.Cell, base []api.Cell, d api.Cell) ([]int, api.Errno) {
	if e := checkAssembly(parts, base, d); e != api.OK {
		return nil, e
	}
	order, locked := takeOut(holdsOf(parts, base, d))
	if len(locked) > 0 {
		return nil, api.ErrInfeasible
	}
	return order, api.OK
}

// Locked returns the parts that cannot be taken out.
func Locked(parts [][]api.Cell, base []api.Cell, d api.Cell) ([]int, api.Errno) {
	if e := checkAssembly(parts, base, d); e != api.OK {
		return nil, e
	}
	_, locked := takeOut(holdsOf(parts, base, d))
	return locked, api.OK
}

// CheckOrder returns the first place of an order at which a part cannot be taken out.
func CheckOrder(parts [][]api.Cell, base []api.Cell, d api.Cell, order []int) (int, api.Errno) {
	if e := checkAssembly(parts, base, d); e != api.OK {
		return 0, e
	}
	if len(order) != len(parts) {
		return 0, api.ErrShape
	}
	holds := holdsOf(parts, base, d)
	left := numbers(len(parts))
	for i, n := range order {
		if n < 0 || n >= len(parts) {
			return 0, api.ErrUnknown
		}
		at := slices.Index(left, n)
		if at < 0 {
			return 0, api.ErrTwice
		}
		if holds[n].keeps(left) {
			return i, api.ErrUndercut
		}
		left = without(left, at)
	}
	return 0, api.OK
}
