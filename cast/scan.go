package cast

import (
	"iter"

	"cusp/api"
	"cusp/grid"
)

// Scan is what is seen of a box from a side: for each line how many cells are empty before the first one that is not.
type Scan struct {
	Side  int
	Box   grid.Box
	Empty []int
}

// side is a side of a box: the axis of its lines, and the step from it into the box.
type side struct {
	axis int
	step int
}

// sides has the sides by their numbers.
var sides = [2 * axes]side{{axisX, 1}, {axisX, -1}, {axisY, 1}, {axisY, -1}, {axisZ, 1}, {axisZ, -1}}

func checkSide(n int) api.Errno { return within(n, 0, len(sides)-1, api.ErrKind) }

func checkBox(b grid.Box) api.Errno {
	_, e := grid.Block(b)
	return e
}

// depth returns the number of cells of each line of a side of a box.
func (s side) depth(b grid.Box) int {
	return coordinate(b.High, s.axis) - coordinate(b.Low, s.axis) + 1
}

// nearest returns the first cell of each line of a side of a box, in the order of the lines.
func (s side) nearest(b grid.Box) []api.Cell {
	if s.step > 0 {
		b.High = along(b.High, s.axis, 1-s.depth(b))
	} else {
		b.Low = along(b.Low, s.axis, s.depth(b)-1)
	}
	cells, _ := grid.Block(b)
	return cells
}

// lines visits the lines of a side of a box: their numbers, and their cells as they are seen one behind the other.
func (s side) lines(b grid.Box) iter.Seq2[int, []api.Cell] {
	return func(yield func(int, []api.Cell) bool) {
		for i, c := range s.nearest(b) {
			line := make([]api.Cell, s.depth(b))
			for k := range line {
				line[k] = along(c, s.axis, k*s.step)
			}
			if !yield(i, line) {
				return
			}
		}
	}
}

// look returns for each line of a side of a box how many cells are empty before the first one that is not.
func (s side) look(b grid.Box, solid set) []int {
	var empty []int
lines:
	for _, line := range s.lines(b) {
		for n, c := range line {
			if solid[c] {
				empty = append(empty, n)
				continue lines
			}
		}
		empty = append(empty, len(line))
	}
	return empty
}

// Look returns the scan of cells from a side.
func Look(l []api.Cell, side int, box grid.Box) (Scan, api.Errno) {
	if e := first(grid.CheckCells(l), checkSide(side), checkBox(box)); e != api.OK {
		return Scan{}, e
	}
	return Scan{side, box, sides[side].look(box, setOf(l))}, api.OK
}

// CheckScan returns the first error of a scan, or OK.
func CheckScan(s Scan) api.Errno {
	if e := first(checkSide(s.Side), checkBox(s.Box)); e != api.OK {
		return e
	}
	from := sides[s.Side]
	if len(s.Empty) != len(from.nearest(s.Box)) {
		return api.ErrShape
	}
	for _, n := range s.Empty {
		if e := within(n, 0, from.depth(s.Box), api.ErrRange); e != api.OK {
			return e
		}
	}
	return api.OK
}

// results returns the cells that a checked scan has seen, and those through which it has seen, line by line.
func (s Scan) results() (seen, through []api.Cell) {
	for i, line := range sides[s.Side].lines(s.Box) {
		n := s.Empty[i]
		through = append(through, line[:n]...)
		if n < len(line) {
			seen = append(seen, line[n])
		}
	}
	return seen, through
}

// Seen returns the cells that a scan has seen.
func Seen(s Scan) ([]api.Cell, api.Errno) {
	if e := CheckScan(s); e != api.OK {
		return nil, e
	}
	seen, _ := s.results()
	return grid.Sorted(seen)
}

// Through returns the cells through which a scan has seen.
func Through(s Scan) ([]api.Cell, api.Errno) {
	if e := CheckScan(s); e != api.OK {
		return nil, e
	}
	_, through := s.results()
	return grid.Sorted(through)
}

// Agrees returns the number of the first line in which a scan does not agree with cells.
func Agrees(l []api.Cell, s Scan) (int, api.Errno) {
	if e := first(grid.CheckCells(l), CheckScan(s)); e != api.OK {
		return 0, e
	}
	for i, n := range sides[s.Side].look(s.Box, setOf(l)) {
		if n != s.Empty[i] {
			return i, api.OK
		}
	}
	return 0, api.ErrNone
}
