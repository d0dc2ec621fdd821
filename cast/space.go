package cast

import (
	"cmp"
	"iter"

	"cusp/api"
)

// The axes by their numbers.
const (
	axisX = iota
	axisY
	axisZ
	axes
)

// coordinate returns the coordinate of a cell along an axis.
func coordinate(c api.Cell, axis int) int { return [axes]int{c.X, c.Y, c.Z}[axis] }

// along returns the cell that is some steps further along an axis.
func along(c api.Cell, axis, steps int) api.Cell {
	switch axis {
	case axisX:
		c.X += steps
	case axisY:
		c.Y += steps
	case axisZ:
		c.Z += steps
	}
	return c
}

// neighbours visits the neighbours of a cell, also those beyond the border of the grid.
func neighbours(c api.Cell) iter.Seq[api.Cell] {
	return func(yield func(api.Cell) bool) {
		for axis := range axes {
			if !yield(along(c, axis, -1)) || !yield(along(c, axis, 1)) {
				return
			}
		}
	}
}

// compare orders cells by X, then by Y, then by Z.
func compare(a, b api.Cell) int {
	return cmp.Or(cmp.Compare(a.X, b.X), cmp.Compare(a.Y, b.Y), cmp.Compare(a.Z, b.Z))
}

// set keeps the cells of a set.
type set map[api.Cell]bool

// setOf returns the set of the cells of lists.
func setOf(lists ...[]api.Cell) set {
	s := set{}
	for _, l := range lists {
		for _, c := range l {
			s[c] = true
		}
	}
	return s
}
