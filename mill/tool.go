package mill

import (
	"iter"
	"slices"

	"cusp/api"
	"cusp/grid"
)

// directions are the vectors to the spindle.
var directions = [5]api.Cell{{X: 0, Y: 0, Z: 1}, {X: 1, Y: 0, Z: 0}, {X: -1, Y: 0, Z: 0}, {X: 0, Y: 1, Z: 0}, {X: 0, Y: -1, Z: 0}}

// kind is a kind of tools: how many cells below its centre a tool occupies, as far from its axis as the square of a distance says.
type kind struct {
	depth func(radius, square int) int
}

// kinds returns the kinds of tools by their names.
func kinds() map[string]kind {
	return map[string]kind{
		"ball": {depth: func(radius, square int) int {
			depth := 0
			for (depth+1)*(depth+1)+square <= radius*radius {
				depth++
			}
			return depth
		}},
		"end": {depth: func(radius, square int) int { return 0 }},
	}
}

// view is a blank as an operation sees it.
type view struct {
	blank   grid.Box
	spindle api.Cell
	radius  int
	kind    kind
}

// viewOf returns the view of a blank by an operation without errors.
func viewOf(b grid.Box, o Op) view {
	return view{b, directions[o.Dir], o.Tool.Radius, kinds()[o.Tool.Kind]}
}

func (v view) height(c api.Cell) int { return product(c, v.spindle) }

// foot returns the cell at the height 0 that a cell has below or above it: it tells the column of the cell.
func (v view) foot(c api.Cell) api.Cell { return minus(c, times(v.height(c), v.spindle)) }

// ends returns the least and the greatest height in the blank.
func (v view) ends() (int, int) {
	low, high := v.height(v.blank.Low), v.height(v.blank.High)
	return min(low, high), max(low, high)
}

// widened returns a box that is widened across the direction by the radius.
func (v view) widened(b grid.Box) grid.Box {
	by := v.foot(api.Cell{X: v.radius, Y: v.radius, Z: v.radius})
	return grid.Box{Low: minus(b.Low, by), High: plus(b.High, by)}
}

// occupied visits the cells of the blank that the tool occupies at a centre, ascending.
func (v view) occupied(at api.Cell) iter.Seq[api.Cell] {
	return func(yield func(api.Cell) bool) {
		for c := range cellsOf(v.blank) {
			from := minus(c, at)
			across := v.foot(from)
			square := product(across, across)
			isThere := square <= v.radius*v.radius && v.height(from) >= -v.kind.depth(v.radius, square)
			if isThere && !yield(c) {
				return
			}
		}
	}
}

// Occupied returns the cells of a blank that a tool occupies from a direction at a centre.
func Occupied(b grid.Box, o Op, at api.Cell) ([]api.Cell, api.Errno) {
	if e := first(checkBlank(b), o.check(), checkCell(at)); e != api.OK {
		return nil, e
	}
	return slices.Collect(viewOf(b, o).occupied(at)), api.OK
}
