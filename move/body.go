package move

import (
	"iter"
	"slices"

	"cusp/api"
	"cusp/grid"
)

// body is a tooth at a place: cells, and by how much these and their box are shifted. The box is that of the shifted cells.
type body struct {
	cells []api.Cell
	box   grid.Box
	by    api.Cell
}

// turnedBody returns the cells of a tooth, turned by so many quarters and not shifted.
func (t Tooth) turnedBody(quarters int) body {
	// Turned about 0 0 0, cells of the grid stay in the grid.
	cells, _ := grid.Sorted(listOf(t.Cells, func(c api.Cell) api.Cell { return turned(c, quarters) }))
	box, _ := grid.Bound(cells)
	return body{cells: cells, box: box}
}

// shifted returns a body that is shifted further.
func (b body) shifted(by api.Cell) body {
	b.box = grid.Box{Low: plus(b.box.Low, by), High: plus(b.box.High, by)}
	b.by = plus(b.by, by)
	return b
}

// all visits the cells of a body, ascending.
func (b body) all() iter.Seq[api.Cell] {
	return func(yield func(api.Cell) bool) {
		for _, c := range b.cells {
			if !yield(plus(c, b.by)) {
				return
			}
		}
	}
}

// isIn reports whether all cells of a body are in a box.
func (b body) isIn(low, high api.Cell) bool {
	return low.X <= b.box.Low.X && low.Y <= b.box.Low.Y && low.Z <= b.box.Low.Z &&
		high.X >= b.box.High.X && high.Y >= b.box.High.Y && high.Z >= b.box.High.Z
}

// boxesApart returns the least number of steps from a place of a box to one of another box.
func boxesApart(a, b grid.Box) int {
	v, w := minus(a.Low, b.High), minus(b.Low, a.High)
	return max(0, v.X, w.X) + max(0, v.Y, w.Y) + max(0, v.Z, w.Z)
}

// near returns the cells of a body that are not further than a limit from a box, ascending.
func (b body) near(box grid.Box, limit int) []api.Cell {
	if boxesApart(b.box, box) > limit {
		return nil
	}
	var l []api.Cell
	for c := range b.all() {
		if boxesApart(grid.Box{Low: c, High: c}, box) <= limit {
			l = append(l, c)
		}
	}
	return l
}

// nearest returns the distance of a cell from ascending cells if it is below a limit, or the limit.
func nearest(c api.Cell, cells []api.Cell, limit int) int {
	least := limit
	for x := c.X - least + 1; x < c.X+least; x++ {
		// Of the cells with this X, only those between two values of Y are near enough.
		reach := least - size(x-c.X)
		from, _ := slices.BinarySearchFunc(cells, api.Cell{X: x, Y: c.Y - reach + 1, Z: -api.MaxSize}, compareCells)
		for _, d := range cells[from:] {
			if d.X > x || d.Y >= c.Y+reach {
				break
			}
			least = min(least, steps(c, d))
		}
	}
	return least
}

// apart returns the distance of two bodies in the grid, or some number above a limit if it is above it.
func (b body) apart(other body, limit int) int {
	// Cells that are further from the box of the other body cannot be nearer to its cells.
	cells, least := other.near(b.box, limit), limit+1
	for _, c := range b.near(other.box, limit) {
		least = nearest(c, cells, least)
	}
	return least
}

// distance returns the distance of two bodies in the grid.
func (b body) distance(other body) int {
	d, _ := grid.Apart(slices.Collect(b.all()), slices.Collect(other.all()))
	return d
}
