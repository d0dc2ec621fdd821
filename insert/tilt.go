package insert

import (
	"cmp"
	"iter"
	"slices"

	"cusp/api"
	"cusp/exact"
	"cusp/grid"
)

// corner is a tilt with the X x/over and the Y y/over, in lowest terms; over is above 0.
type corner struct {
	x, y, over int
}

// cross returns the cross product of two vectors.
func cross(a, b api.Cell) api.Cell {
	return api.Cell{X: a.Y*b.Z - a.Z*b.Y, Y: a.Z*b.X - a.X*b.Z, Z: a.X*b.Y - a.Y*b.X}
}

func divisor(a, b int) int {
	for b != 0 {
		a, b = b, a%b
	}
	return max(a, -a)
}

// crossing returns the tilt that two walls only just permit, if there is a single one.
func crossing(a, b api.Cell) (corner, bool) {
	// With 1 as the Z of a tilt, both walls are at right angles to it.
	v := cross(a, b)
	if v.Z == 0 {
		return corner{}, false
	}
	if v.Z < 0 {
		v = times(-1, v)
	}
	common := divisor(divisor(v.X, v.Y), v.Z)
	return corner{v.X / common, v.Y / common, v.Z / common}, true
}

// isPermitted reports whether all walls permit a corner.
func (c corner) isPermitted(walls []api.Cell) bool {
	for _, w := range walls {
		if w.X*c.x+w.Y*c.y+w.Z*c.over < 0 {
			return false
		}
	}
	return true
}

// corners visits the corners of the tilts that walls permit, in any order and some of them several times.
// The walls contain a limit: so there are corners if there are permitted tilts.
func corners(walls []api.Cell) iter.Seq[corner] {
	return func(yield func(corner) bool) {
		for i, a := range walls {
			for _, b := range walls[:i] {
				if c, single := crossing(a, b); single && c.isPermitted(walls) && !yield(c) {
					return
				}
			}
		}
	}
}

// hasTilt reports whether there is a tilt that walls permit; these contain a limit.
func hasTilt(walls []api.Cell) bool {
	for range corners(walls) {
		return true
	}
	return false
}

// line goes from one corner to another one.
type line struct {
	from, to corner
}

// side returns 1, 0 or -1 for a corner on the left of a line, on it, or on the right.
func (l line) side(c corner) int {
	v := cross(api.Cell{X: l.from.x, Y: l.from.y, Z: l.from.over}, api.Cell{X: l.to.x, Y: l.to.y, Z: l.to.over})
	// The product with a third corner does not fit an int.
	return exact.Sign(product(v.X, c.x), product(v.Y, c.y), product(v.Z, c.over))
}

// product returns the product of two integers as a term.
func product(a, b int) exact.Term {
	number, _ := grid.Of(b, 1)
	return exact.Term{Factor: a, Number: number}
}

func (l line) hasLeft(c corner) bool { return l.side(c) > 0 }

func (l line) hasRight(c corner) bool { return l.side(c) < 0 }

// those returns the corners that are on one side of a line.
func (l line) those(list []corner, isThere func(line, corner) bool) []corner {
	var there []corner
	for _, c := range list {
		if isThere(l, c) {
			there = append(there, c)
		}
	}
	return there
}

// round returns ascending corners as one goes round with the polygon on the left side.
func round(ascending []corner) []corner {
	if len(ascending) < 3 {
		return ascending
	}
	low, between, high := ascending[:1], ascending[1:len(ascending)-1], ascending[len(ascending)-1:]
	across := line{low[0], high[0]}
	back := across.those(between, line.hasLeft)
	slices.Reverse(back)
	return slices.Concat(low, across.those(between, line.hasRight), high, back)
}

// tilt returns a corner as a tilt.
func (c corner) tilt() Tilt {
	x, _ := grid.Of(c.x, c.over)
	y, _ := grid.Of(c.y, c.over)
	return Tilt{X: x, Y: y}
}

// Tilts returns the corners of the tilts that all walls permit.
func Tilts(walls []api.Cell, steep int) ([]Tilt, api.Errno) {
	if e := first(CheckWalls(walls), checkSteep(steep)); e != api.OK {
		return nil, e
	}
	found := slices.SortedFunc(corners(joined(steep, walls)), func(a, b corner) int {
		return cmp.Or(cmp.Compare(a.x*b.over, b.x*a.over), cmp.Compare(a.y*b.over, b.y*a.over))
	})
	if len(found) == 0 {
		return nil, api.ErrInfeasible
	}
	var tilts []Tilt
	for _, c := range round(slices.Compact(found)) {
		tilts = append(tilts, c.tilt())
	}
	return tilts, api.OK
}

// mean returns the mean of a coordinate of tilts.
func mean(tilts []Tilt, coordinate func(Tilt) api.Rat) (api.Rat, api.Errno) {
	var numbers []api.Rat
	for _, t := range tilts {
		numbers = append(numbers, coordinate(t))
	}
	total := sum(func(a, b api.Rat) api.Rat {
		// No corner has more than 7 digits below: the sums of up to 68 keep the limit of digits.
		c, _ := grid.Add(a, b)
		return c
	}, "0", numbers...)
	count, _ := grid.Of(len(tilts), 1)
	return grid.Div(total, count)
}

// Middle returns the mean of the corners of the tilts that all walls permit.
func Middle(walls []api.Cell, steep int) (Tilt, api.Errno) {
	tilts, e := Tilts(walls, steep)
	if e != api.OK {
		return Tilt{}, e
	}
	x, errorOfX := mean(tilts, func(t Tilt) api.Rat { return t.X })
	y, errorOfY := mean(tilts, func(t Tilt) api.Rat { return t.Y })
	if e := first(errorOfX, errorOfY); e != api.OK {
		return Tilt{}, e
	}
	return Tilt{X: x, Y: y}, api.OK
}
