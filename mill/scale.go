package mill

import (
	"slices"

	"cusp/api"
	"cusp/exact"
	"cusp/grid"
)

// scale is a scaling about a cell. A cell that is n cells from this one along an axis is enlarged to cells from starts[n+reach] to -starts[-n+reach] from it, for n from -reach to reach.
type scale struct {
	about  api.Cell
	reach  int
	starts []int
}

// checkFactor returns the error of a factor, or OK.
func checkFactor(factor api.Rat) api.Errno {
	if e := grid.Check(factor); e != api.OK {
		return e
	}
	low, _ := grid.Order(factor, "1")
	high, _ := grid.Order(factor, "2")
	return when(low < 0 || high > 0, api.ErrRange)
}

// isBeyond reports whether the cube of a cell that is n cells from the middle, enlarged, begins at the end of the cell at m or beyond it.
// Halves are counted: the cube begins at factor (2n - 1), the cell ends at 2m + 1.
func isBeyond(n, m int, factor api.Rat) bool {
	return exact.Sign(exact.Term{Factor: 2*n - 1, Number: factor}, exact.Term{Factor: -2*m - 1, Number: "1"}) >= 0
}

// scaleOf returns the scale by a factor about a cell, as far as some cells need it.
func scaleOf(l []api.Cell, about api.Cell, factor api.Rat) scale {
	s := scale{about: about}
	for _, c := range l {
		v := minus(c, about)
		s.reach = max(s.reach, size(v.X), size(v.Y), size(v.Z))
	}
	// A factor of at most 2 takes no cell farther than this.
	start := -2*s.reach - 1
	for n := -s.reach; n <= s.reach; n++ {
		for isBeyond(n, start, factor) {
			start++
		}
		s.starts = append(s.starts, start)
	}
	return s
}

// enlarged returns the box of the cells to which a cell is enlarged, also beyond the grid.
func (s scale) enlarged(c api.Cell) grid.Box {
	v := minus(c, s.about)
	start := func(n int) int { return s.starts[n+s.reach] }
	return grid.Box{
		Low:  plus(s.about, api.Cell{X: start(v.X), Y: start(v.Y), Z: start(v.Z)}),
		High: minus(s.about, api.Cell{X: start(-v.X), Y: start(-v.Y), Z: start(-v.Z)}),
	}
}

// Enlarged returns the cells that a set touches, scaled for sintering.
func Enlarged(l []api.Cell, about api.Cell, factor api.Rat) ([]api.Cell, api.Errno) {
	if e := first(grid.CheckCells(l), checkCell(about), checkFactor(factor)); e != api.OK {
		return nil, e
	}
	var out []api.Cell
	s := scaleOf(l, about, factor)
	for _, c := range l {
		out = slices.AppendSeq(out, cellsOf(s.enlarged(c)))
	}
	slices.SortFunc(out, compareCells)
	out = slices.Compact(out)
	if e := first(when(len(out) > api.MaxCells, api.ErrMany), first(listOf(out, checkCell)...)); e != api.OK {
		return nil, e
	}
	return out, api.OK
}

// beginnings returns the cells that are enlarged to a box whose Low is a cell of a set, ascending.
func (s scale) beginnings(l []api.Cell) []api.Cell {
	from := map[int]int{}
	for i, start := range s.starts {
		from[start] = i - s.reach
	}
	var out []api.Cell
	for _, c := range l {
		v := minus(c, s.about)
		x, isX := from[v.X]
		y, isY := from[v.Y]
		z, isZ := from[v.Z]
		if isX && isY && isZ {
			out = append(out, plus(s.about, api.Cell{X: x, Y: y, Z: z}))
		}
	}
	return out
}

// Sintered returns the cells that are whole in a scaled set.
func Sintered(l []api.Cell, about api.Cell, factor api.Rat) ([]api.Cell, api.Errno) {
	if e := first(grid.CheckCells(l), checkCell(about), checkFactor(factor)); e != api.OK {
		return nil, e
	}
	isThere := map[api.Cell]bool{}
	for _, c := range l {
		isThere[c] = true
	}
	s := scaleOf(l, about, factor)
	return slices.DeleteFunc(s.beginnings(l), func(c api.Cell) bool {
		for touched := range cellsOf(s.enlarged(c)) {
			if !isThere[touched] {
				return true
			}
		}
		return false
	}), api.OK
}
