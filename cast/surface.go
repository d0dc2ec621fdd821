package cast

import (
	"cmp"
	"slices"

	"cusp/api"
	"cusp/grid"
)

// Face is a square between the cell and the one before it along the axis.
type Face struct {
	At   api.Cell
	Axis int
}

// Edge is an edge along an axis, at the lower corner of a cell.
type Edge struct {
	At   api.Cell
	Axis int
}

// maxFaces is the greatest number of faces of a surface.
const maxFaces = 2 * axes * api.MaxCells

// compareFaces orders faces by their cells, then by the axis.
func compareFaces(f, g Face) int {
	return cmp.Or(compare(f.At, g.At), cmp.Compare(f.Axis, g.Axis))
}

// compareEdges orders edges as faces with their cells and axes.
func compareEdges(d, e Edge) int { return compareFaces(Face(d), Face(e)) }

// checkFace returns the error of a face that does not depend on its place in a list, or OK.
func checkFace(f Face) api.Errno {
	if e := within(f.Axis, axisX, axisZ, api.ErrKind); e != api.OK {
		return e
	}
	c := f.At
	if coordinate(c, f.Axis) == api.MaxSize+1 {
		// It is the far face of the last cell of its row.
		c = along(c, f.Axis, -1)
	}
	return checkCell(c)
}

// checkFaces returns the first error of faces, or OK.
func checkFaces(l []Face) api.Errno {
	if len(l) > maxFaces {
		return api.ErrMany
	}
	for i, f := range l {
		if e := checkFace(f); e != api.OK {
			return e
		}
		if i > 0 && compareFaces(l[i-1], f) >= 0 {
			return api.ErrOrder
		}
	}
	return api.OK
}

// odd returns what a list has an odd number of times, each once, in any order.
func odd[T comparable](l []T) []T {
	times := map[T]int{}
	for _, element := range l {
		times[element]++
	}
	var out []T
	for element, n := range times {
		if n%2 == 1 {
			out = append(out, element)
		}
	}
	return out
}

// surface returns the surface of cells, ascending.
func surface(l []api.Cell) []Face {
	var faces []Face
	for _, c := range l {
		for axis := range axes {
			faces = append(faces, Face{c, axis}, Face{along(c, axis, 1), axis})
		}
	}
	// Two cells have each face between them twice.
	faces = odd(faces)
	slices.SortFunc(faces, compareFaces)
	return faces
}

// leaks returns the leaks of faces, ascending.
func leaks(l []Face) []Edge {
	var edges []Edge
	for _, f := range l {
		b, c := (f.Axis+1)%axes, (f.Axis+2)%axes
		edges = append(edges, Edge{f.At, b}, Edge{f.At, c}, Edge{along(f.At, c, 1), b}, Edge{along(f.At, b, 1), c})
	}
	edges = odd(edges)
	slices.SortFunc(edges, compareEdges)
	return edges
}

// row is a row of cells along X, by its other coordinates.
type row struct {
	y int
	z int
}

// inside returns the cells inside of faces without leaks, ascending, or ErrMany.
func inside(l []Face) ([]api.Cell, api.Errno) {
	begun := map[row]int{}
	var cells []api.Cell
	for _, f := range l {
		if f.Axis != axisX {
			continue
		}
		at := row{f.At.Y, f.At.Z}
		from, is := begun[at]
		if !is {
			begun[at] = f.At.X
			continue
		}
		delete(begun, at)
		for x := from; x < f.At.X; x++ {
			cells = append(cells, api.Cell{X: x, Y: at.y, Z: at.z})
		}
		if len(cells) > api.MaxCells {
			return nil, api.ErrMany
		}
	}
	return grid.Sorted(cells)
}

// Surface returns the faces between cells and what is outside of them.
func Surface(l []api.Cell) ([]Face, api.Errno) {
	if e := grid.CheckCells(l); e != api.OK {
		return nil, e
	}
	return surface(l), api.OK
}

// Leaks returns the edges that an odd number of faces have.
func Leaks(l []Face) ([]Edge, api.Errno) {
	if e := checkFaces(l); e != api.OK {
		return nil, e
	}
	return leaks(l), api.OK
}

// Fill returns the cells inside of a watertight surface.
func Fill(l []Face) ([]api.Cell, api.Errno) {
	if e := checkFaces(l); e != api.OK {
		return nil, e
	}
	if len(leaks(l)) > 0 {
		return nil, api.ErrHole
	}
	return inside(l)
}
