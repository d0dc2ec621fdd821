package restore

import (
	"iter"
	"math"
	"slices"

	"cusp/api"
	"cusp/grid"
)

// Adapt returns a part without the other cells.
func Adapt(p Plan, part []api.Cell) ([]api.Cell, api.Errno) {
	if e := checkWith(p, part); e != api.OK {
		return nil, e
	}
	return grid.Less(part, p.Others)
}

// beside returns the cells of a part that have a neighbour among others.
func beside(part, others []api.Cell) []api.Cell {
	set := setOf(others)
	return slices.Collect(where(part, func(c api.Cell) bool { return besides(c, set) > 0 }))
}

// haveCommon reports whether two sets have a cell in common.
func haveCommon(a, b []api.Cell) bool {
	set := setOf(b)
	return slices.ContainsFunc(a, func(c api.Cell) bool { return set[c] })
}

// Touches returns the cells of a part that touch the other cells.
func Touches(p Plan, part []api.Cell) ([]api.Cell, api.Errno) {
	if e := checkWith(p, part); e != api.OK {
		return nil, e
	}
	if haveCommon(part, p.Others) {
		return nil, api.ErrHit
	}
	return beside(part, p.Others), api.OK
}

// Inner returns the cells of the shape that a part leaves empty.
func Inner(p Plan, part []api.Cell) ([]api.Cell, api.Errno) {
	if e := checkWith(p, part); e != api.OK {
		return nil, e
	}
	return grid.Less(p.Shape, part)
}

func (p Plan) isAbove(c api.Cell) bool { return c.Z > p.Margin }

// skin returns the skin of the shape; it may have more cells than a set.
func (p Plan) skin() []api.Cell {
	shape, skin := setOf(p.Shape), map[api.Cell]bool{}
	for _, c := range p.Shape {
		for n := range neighbours(c) {
			if !shape[n] && p.isAbove(n) {
				skin[n] = true
			}
		}
	}
	return ascending(skin)
}

// hollow returns the cells of the inside of a part from which its walls are measured: those above the margin.
func (p Plan) hollow(part []api.Cell) body {
	inside, _ := grid.Less(p.Shape, part)
	return slices.Collect(where(inside, p.isAbove))
}

// walls visits the cells of the skin, ascending, with the wall at each of them around a hollow that has cells.
func (p Plan) walls(hollow body) iter.Seq2[api.Cell, int] {
	return func(yield func(api.Cell, int) bool) {
		for _, c := range p.skin() {
			if !yield(c, hollow.distance(c)-1) {
				return
			}
		}
	}
}

// Wall returns the least wall of a part above the margin.
func Wall(p Plan, part []api.Cell) (int, api.Errno) {
	if e := checkWith(p, part); e != api.OK {
		return 0, e
	}
	hollow := p.hollow(part)
	if len(hollow) == 0 {
		return 0, api.ErrNone
	}
	least := math.MaxInt
	for _, wall := range p.walls(hollow) {
		least = min(least, wall)
	}
	return least, api.OK
}

// thin returns the cells of the skin at which the wall around a hollow that has cells is less than it has to be.
func (p Plan) thin(hollow body) []api.Cell {
	var l []api.Cell
	for c, wall := range p.walls(hollow) {
		if wall < p.Wall {
			l = append(l, c)
		}
	}
	return l
}

// Thin returns the cells of the skin at which the wall is less than it has to be.
func Thin(p Plan, part []api.Cell) ([]api.Cell, api.Errno) {
	if e := checkWith(p, part); e != api.OK {
		return nil, e
	}
	hollow := p.hollow(part)
	if len(hollow) == 0 {
		return nil, api.ErrNone
	}
	return p.thin(hollow), api.OK
}

// Fit returns the least and the greatest distance of the inside of a part from the stump.
func Fit(p Plan, part []api.Cell) ([2]int, api.Errno) {
	inside, e := Inner(p, part)
	if e != api.OK {
		return [2]int{}, e
	}
	var distances []int
	far := body(p.Stump).distance
	for _, c := range beside(part, inside) {
		distances = append(distances, far(c))
	}
	if len(distances) == 0 {
		return [2]int{}, api.ErrNone
	}
	return [2]int{slices.Min(distances), slices.Max(distances)}, api.OK
}
