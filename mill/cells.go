package mill

import (
	"cmp"
	"iter"

	"cusp/api"
	"cusp/grid"
)

func plus(a, b api.Cell) api.Cell { return api.Cell{X: a.X + b.X, Y: a.Y + b.Y, Z: a.Z + b.Z} }

// minus returns the vector to a cell from another one.
func minus(to, from api.Cell) api.Cell {
	return api.Cell{X: to.X - from.X, Y: to.Y - from.Y, Z: to.Z - from.Z}
}

// times returns a vector that is n times as long.
func times(n int, v api.Cell) api.Cell { return api.Cell{X: n * v.X, Y: n * v.Y, Z: n * v.Z} }

// product returns the scalar product of two vectors.
func product(v, w api.Cell) int { return v.X*w.X + v.Y*w.Y + v.Z*w.Z }

func size(n int) int { return max(n, -n) }

// steps returns the number of steps from a cell to another one.
func steps(from, to api.Cell) int {
	v := minus(to, from)
	return size(v.X) + size(v.Y) + size(v.Z)
}

func compareCells(a, b api.Cell) int {
	return cmp.Or(cmp.Compare(a.X, b.X), cmp.Compare(a.Y, b.Y), cmp.Compare(a.Z, b.Z))
}

// isIn reports whether all of some cells are in a box.
func isIn(b grid.Box, cells ...api.Cell) bool {
	for _, c := range cells {
		low, high := minus(c, b.Low), minus(b.High, c)
		if min(low.X, low.Y, low.Z, high.X, high.Y, high.Z) < 0 {
			return false
		}
	}
	return true
}

// cellsOf visits the cells of a box of any size, ascending.
func cellsOf(b grid.Box) iter.Seq[api.Cell] {
	return func(yield func(api.Cell) bool) {
		for x := b.Low.X; x <= b.High.X; x++ {
			for y := b.Low.Y; y <= b.High.Y; y++ {
				for z := b.Low.Z; z <= b.High.Z; z++ {
					if !yield(api.Cell{X: x, Y: y, Z: z}) {
						return
					}
				}
			}
		}
	}
}

// volume returns the number of cells of a box.
func volume(b grid.Box) int { return index(b, b.High) + 1 }

// index returns the number of a cell of a box, from 0 on, as they are ordered.
func index(b grid.Box, c api.Cell) int {
	v, all := minus(c, b.Low), minus(b.High, b.Low)
	return (v.X*(all.Y+1)+v.Y)*(all.Z+1) + v.Z
}

// listOf returns the list of what is made from the elements of another one.
func listOf[T, U any](l []T, from func(T) U) []U {
	out := make([]U, len(l))
	for i, x := range l {
		out[i] = from(x)
	}
	return out
}
