package insert

import (
	"cusp/api"
	"cusp/grid"
)

// floor returns the integer part (downwards) of a quotient; b is above 0.
func floor(a, b int) int {
	if a%b < 0 {
		return a/b - 1
	}
	return a / b
}

// way returns the shift after k steps along a direction.
func way(d api.Cell, k int) api.Cell {
	return api.Cell{X: floor(k*d.X, d.Z), Y: floor(k*d.Y, d.Z), Z: k}
}

// Way returns the shift after k steps along a direction.
func Way(d api.Cell, k int) (api.Cell, api.Errno) {
	if e := first(CheckDirection(d), within(k, 0, 2*api.MaxSize)); e != api.OK {
		return api.Cell{}, e
	}
	return way(d, k), api.OK
}

// isIn reports whether a cell, or a shift, is in a box.
func isIn(box grid.Box, c api.Cell) bool {
	nearest := api.Cell{
		X: min(max(c.X, box.Low.X), box.High.X),
		Y: min(max(c.Y, box.Low.Y), box.High.Y),
		Z: min(max(c.Z, box.Low.Z), box.High.Z),
	}
	return nearest == c
}

// obstacle keeps the cells of a base, and their box.
type obstacle struct {
	has map[api.Cell]bool
	box grid.Box
}

func obstacleOf(base []api.Cell) obstacle {
	o := obstacle{has: make(map[api.Cell]bool, len(base))}
	for _, c := range base {
		o.has[c] = true
	}
	// Whatever the box of no cells is, nothing is found in it.
	o.box, _ = grid.Bound(base)
	return o
}

// meet returns the least common cell of an obstacle and a part that is shifted, if they have one.
func (o obstacle) meet(part []api.Cell, by api.Cell) (api.Cell, bool) {
	for _, c := range part {
		if there := plus(c, by); o.has[there] {
			return there, true
		}
	}
	return api.Cell{}, false
}

// stop returns the first number of steps after which a part hits an obstacle, and the least common cell then; false if it gets out.
func (o obstacle) stop(part []api.Cell, d api.Cell) (int, api.Cell, bool) {
	box, _ := grid.Bound(part)
	// Only with these shifts do both boxes overlap.
	near := grid.Box{Low: minus(o.box.Low, box.High), High: minus(o.box.High, box.Low)}
	for k := max(near.Low.Z, 0); k <= near.High.Z; k++ {
		by := way(d, k)
		if !isIn(near, by) {
			continue
		}
		if at, hits := o.meet(part, by); hits {
			return k, at, true
		}
	}
	return 0, api.Cell{}, false
}

// holds reports whether a part hits an obstacle on its way.
func (o obstacle) holds(part []api.Cell, d api.Cell) bool {
	_, _, hits := o.stop(part, d)
	return hits
}

// Stuck returns the first number of steps after which a part hits a base, and the least cell of both then.
func Stuck(part, base []api.Cell, d api.Cell) (int, api.Cell, api.Errno) {
	if e := first(grid.CheckCells(part), grid.CheckCells(base), CheckDirection(d)); e != api.OK {
		return 0, api.Cell{}, e
	}
	k, at, hits := obstacleOf(base).stop(part, d)
	if !hits {
		return 0, api.Cell{}, api.ErrNone
	}
	return k, at, api.OK
}

// fan returns the directions with the Z n, ascending.
func fan(n int) []api.Cell {
	var l []api.Cell
	for x := -n; x <= n; x++ {
		for y := -n; y <= n; y++ {
			l = append(l, api.Cell{X: x, Y: y, Z: n})
		}
	}
	return l
}

// Fan returns the directions of a fan.
func Fan(n int) ([]api.Cell, api.Errno) {
	if e := checkFan(n); e != api.OK {
		return nil, e
	}
	return fan(n), api.OK
}

// Open returns the directions of a fan along which a part gets out of a base.
func Open(part, base []api.Cell, n int) ([]api.Cell, api.Errno) {
	if e := first(grid.CheckCells(part), grid.CheckCells(base), checkFan(n)); e != api.OK {
		return nil, e
	}
	around := obstacleOf(base)
	var open []api.Cell
	for _, d := range fan(n) {
		if !around.holds(part, d) {
			open = append(open, d)
		}
	}
	return open, api.OK
}
