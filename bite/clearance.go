package bite

import (
	"slices"

	"cusp/api"
)

// columnOf returns X and Y of the column of a cell.
func columnOf(c api.Cell) [2]int { return [2]int{c.X, c.Y} }

// heights returns the Z of the cells of a set by their columns, ascending.
func heights(l []api.Cell) map[[2]int][]int {
	columns := map[[2]int][]int{}
	for _, c := range l {
		columns[columnOf(c)] = append(columns[columnOf(c)], c.Z)
	}
	return columns
}

// clearance returns the columns that have a clearance at a position, or ErrHit if there are hits.
func (b Bite) clearance(position int) ([]Column, api.Errno) {
	upper := heights(b.Upper)
	var columns []Column
	for _, c := range b.place(position) {
		above := upper[columnOf(c)]
		next, isHit := slices.BinarySearch(above, c.Z)
		if isHit {
			return nil, api.ErrHit
		}
		if next == len(above) {
			continue
		}
		// A pair with a lower cell between is never the least one: that cell is nearer.
		gap := above[next] - c.Z - 1
		last := len(columns) - 1
		if last >= 0 && columns[last].X == c.X && columns[last].Y == c.Y {
			columns[last].Gap = min(columns[last].Gap, gap)
		} else {
			columns = append(columns, Column{X: c.X, Y: c.Y, Gap: gap})
		}
	}
	return columns, api.OK
}

// Clearance returns the columns that both sets have, with their gaps.
func Clearance(b Bite, position int) ([]Column, api.Errno) {
	if e := checkAt(b, position); e != api.OK {
		return nil, e
	}
	return b.clearance(position)
}

// Close returns by how many cells the lower set goes up from a position without a hit.
func Close(b Bite, position int) (int, api.Errno) {
	if e := checkAt(b, position); e != api.OK {
		return 0, e
	}
	columns, e := b.clearance(position)
	if e != api.OK {
		return 0, e
	}
	if len(columns) == 0 {
		return 0, api.ErrNone
	}
	n := columns[0].Gap
	for _, c := range columns {
		n = min(n, c.Gap)
	}
	return n, api.OK
}
