package grid

import (
	"slices"

	"cusp/api"
)

// field keeps a value for each cell of a box, in the order of the cells.
type field[T any] struct {
	box    Box
	values []T
}

func fieldOf[T any](b Box) field[T] { return field[T]{b, make([]T, b.volume())} }

// index returns the place of a cell of the box among the values.
func (f field[T]) index(c api.Cell) int {
	low, high := f.box.Low, f.box.High
	return ((c.X-low.X)*(high.Y-low.Y+1)+c.Y-low.Y)*(high.Z-low.Z+1) + c.Z - low.Z
}

// put puts down a value for cells of the box.
func put[T any](f field[T], value T, cells ...api.Cell) {
	for _, c := range cells {
		f.values[f.index(c)] = value
	}
}

// checkNarrow returns the first error of a set, ErrLimit if its box has too many cells for a search, or OK.
func checkNarrow(l []api.Cell) api.Errno {
	if e := CheckCells(l); e != api.OK {
		return e
	}
	if len(l) > 0 && bound(l).volume() > api.MaxVolume {
		return api.ErrLimit
	}
	return api.OK
}

// doubled returns a cell with twice the coordinates.
// With these, the middles of cells have even coordinates, and those of their faces, edges and corners have one, two and three odd ones.
func doubled(c api.Cell) api.Cell { return api.Cell{X: 2 * c.X, Y: 2 * c.Y, Z: 2 * c.Z} }

// counts returns the counts of a set.
func counts(l []api.Cell) Count {
	if len(l) == 0 {
		return Count{}
	}
	box := bound(l)
	low, high := doubled(box.Low), doubled(box.High)
	met := fieldOf[int8](Box{
		Low:  api.Cell{X: low.X - 1, Y: low.Y - 1, Z: low.Z - 1},
		High: api.Cell{X: high.X + 1, Y: high.Y + 1, Z: high.Z + 1},
	})
	var kinds [4]int
	shared := 0
	for _, c := range l {
		for element := range around(doubled(c)) {
			kind := element.X&1 + element.Y&1 + element.Z&1
			times := met.values[met.index(element)]
			put(met, times+1, element)
			if times == 0 {
				kinds[kind]++
			} else if kind == 1 {
				shared++
			}
		}
	}
	return Count{
		Cells:   kinds[0],
		Faces:   kinds[1],
		Edges:   kinds[2],
		Corners: kinds[3],
		Surface: kinds[1] - shared,
		Euler:   kinds[3] - kinds[2] + kinds[1] - kinds[0],
	}
}

// cavities returns the cavities of a set, ordered by their least cells.
func cavities(l []api.Cell) [][]api.Cell {
	if len(l) == 0 {
		return nil
	}
	taken := fieldOf[bool](bound(l))
	put(taken, true, l...)
	take := func(c api.Cell) bool {
		if !taken.box.has(c) || taken.values[taken.index(c)] {
			return false
		}
		put(taken, true, c)
		return true
	}
	out := [][]api.Cell{}
	isOutside := func(c api.Cell) bool { return !taken.box.inside(c) }
	for c := range taken.box.cells() {
		if p := part(c, neighbours, take); len(p) > 0 && !slices.ContainsFunc(p, isOutside) {
			out = append(out, sorted(p))
		}
	}
	return out
}

// Counts returns the counts of a set.
func Counts(l []api.Cell) (Count, api.Errno) {
	if e := checkNarrow(l); e != api.OK {
		return Count{}, e
	}
	return counts(l), api.OK
}

// Cavities returns the cavities of a set.
func Cavities(l []api.Cell) ([][]api.Cell, api.Errno) {
	if e := checkNarrow(l); e != api.OK {
		return nil, e
	}
	return cavities(l), api.OK
}

// Tunnels returns the number of tunnels of a set.
func Tunnels(l []api.Cell) (int, api.Errno) {
	if e := checkNarrow(l); e != api.OK {
		return 0, e
	}
	return len(parts(l, around)) + len(cavities(l)) - counts(l).Euler, api.OK
}
