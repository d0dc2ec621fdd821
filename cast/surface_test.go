package cast_test

import (
	"cmp"
	"math/rand/v2"
	"slices"
	"testing"

	"cusp/api"
	"cusp/cast"
	"cusp/grid"
)

// cellFaces returns the surface of the cell 0 0 0.
func cellFaces() []cast.Face {
	return []cast.Face{{At: at(0, 0, 0), Axis: 0}, {At: at(0, 0, 0), Axis: 1}, {At: at(0, 0, 0), Axis: 2}, {At: at(0, 0, 1), Axis: 2}, {At: at(0, 1, 0), Axis: 1}, {At: at(1, 0, 0), Axis: 0}}
}

func inOrder(l []cast.Face) []cast.Face {
	slices.SortFunc(l, func(f, g cast.Face) int { return cmp.Or(compare(f.At, g.At), f.Axis-g.Axis) })
	return l
}

// wall returns the surface of a box.
func wall(b grid.Box) []cast.Face {
	var l []cast.Face
	for axis := range 3 {
		b, c := b, b
		reach := parts(b.High)[axis] - parts(b.Low)[axis]
		b.High = moved(b.High, axis, -reach)
		c.Low = moved(c.Low, axis, reach)
		for cell := range cells(b) {
			l = append(l, cast.Face{At: cell, Axis: axis})
		}
		for cell := range cells(c) {
			l = append(l, cast.Face{At: moved(cell, axis, 1), Axis: axis})
		}
	}
	return inOrder(l)
}

// cells visits the cells of a box, also of one that has too many for grid.Block.
func cells(b grid.Box) func(yield func(api.Cell) bool) {
	return func(yield func(api.Cell) bool) {
		for x := b.Low.X; x <= b.High.X; x++ {
			for y := b.Low.Y; y <= b.High.Y; y++ {
				for z := b.Low.Z; z <= b.High.Z; z++ {
					if !yield(at(x, y, z)) {
						return
					}
				}
			}
		}
	}
}

// randomFaces returns faces around 0 0 0; of all these one of so many is taken.
func randomFaces(r *rand.Rand, of int) []cast.Face {
	var l []cast.Face
	for cell := range cells(box(at(-2, -2, -2), at(2, 2, 2))) {
		for axis := range 3 {
			if r.IntN(of) == 0 {
				l = append(l, cast.Face{At: cell, Axis: axis})
			}
		}
	}
	return l
}

// checkered returns the cells of a box whose coordinates have an even sum: no two of them are neighbours.
func checkered(b grid.Box) []api.Cell {
	var l []api.Cell
	for c := range cells(b) {
		if (c.X+c.Y+c.Z)%2 == 0 {
			l = append(l, c)
		}
	}
	return l
}

func TestSurface(t *testing.T) {
	same(t, "Surface of a cell", fine[[]cast.Face](t)(cast.Surface([]api.Cell{at(0, 0, 0)})), cellFaces())
	same(t, "Surface of nothing", fine[[]cast.Face](t)(cast.Surface(nil)), nil)
	same(t, "Surface of two cells", fine[[]cast.Face](t)(cast.Surface([]api.Cell{at(0, 0, 0), at(0, 0, 1)})), wall(box(at(0, 0, 0), at(0, 0, 1))))
	for _, b := range []grid.Box{box(at(-1, 2, 3), at(1, 5, 4)), box(at(1000, 1000, 1000), at(1000, 1000, 1000)), box(at(-1000, -1000, -1000), at(-1000, -999, -998)), box(at(0, 0, 0), at(15, 15, 15))} {
		same(t, "Surface of a box", fine[[]cast.Face](t)(cast.Surface(block(t, b.Low, b.High))), wall(b))
	}
	r := dice()
	for range 50 {
		l := scattered(r, 2, 1+r.IntN(6))
		var want []cast.Face
		for c := range cells(box(at(-2, -2, -2), at(3, 3, 3))) {
			for axis := range 3 {
				if slices.Contains(l, c) != slices.Contains(l, moved(c, axis, -1)) {
					want = append(want, cast.Face{At: c, Axis: axis})
				}
			}
		}
		same(t, "Surface", fine[[]cast.Face](t)(cast.Surface(l)), want)
	}
	most := checkered(box(at(0, 0, 0), at(15, 15, 31)))
	same(t, "the most faces", len(fine[[]cast.Face](t)(cast.Surface(most))), 24576)
	for e, l := range faultyCells() {
		got, gotE := cast.Surface(l)
		refused(t, "Surface of faulty cells", got, gotE, e)
	}
}

func TestLeaks(t *testing.T) {
	same(t, "Leaks of a cell", fine[[]cast.Edge](t)(cast.Leaks(cellFaces())), nil)
	same(t, "Leaks of nothing", fine[[]cast.Edge](t)(cast.Leaks(nil)), nil)
	same(t, "Leaks", fine[[]cast.Edge](t)(cast.Leaks(cellFaces()[:5])), []cast.Edge{{At: at(1, 0, 0), Axis: 1}, {At: at(1, 0, 0), Axis: 2}, {At: at(1, 0, 1), Axis: 1}, {At: at(1, 1, 0), Axis: 2}})
	for axis, want := range [][]cast.Edge{
		{{At: at(3, 4, 5), Axis: 1}, {At: at(3, 4, 5), Axis: 2}, {At: at(3, 4, 6), Axis: 1}, {At: at(3, 5, 5), Axis: 2}},
		{{At: at(3, 4, 5), Axis: 0}, {At: at(3, 4, 5), Axis: 2}, {At: at(3, 4, 6), Axis: 0}, {At: at(4, 4, 5), Axis: 2}},
		{{At: at(3, 4, 5), Axis: 0}, {At: at(3, 4, 5), Axis: 1}, {At: at(3, 5, 5), Axis: 0}, {At: at(4, 4, 5), Axis: 1}},
	} {
		same(t, "Leaks of a face", fine[[]cast.Edge](t)(cast.Leaks([]cast.Face{{At: at(3, 4, 5), Axis: axis}})), want)
	}
	corner := cast.Face{At: at(1000, 1001, 1000), Axis: 1}
	same(t, "Leaks at the border", fine[[]cast.Edge](t)(cast.Leaks([]cast.Face{corner})), []cast.Edge{{At: at(1000, 1001, 1000), Axis: 0}, {At: at(1000, 1001, 1000), Axis: 2}, {At: at(1000, 1001, 1001), Axis: 0}, {At: at(1001, 1001, 1000), Axis: 2}})
	r := dice()
	for range 100 {
		l := randomFaces(r, 1+r.IntN(5))
		var want []cast.Edge
		for c := range cells(box(at(-2, -2, -2), at(3, 3, 3))) {
			for axis := range 3 {
				if b, d := (axis+1)%3, (axis+2)%3; touching(l, c, b, d)%2 == 1 {
					want = append(want, cast.Edge{At: c, Axis: axis})
				}
			}
		}
		same(t, "Leaks", fine[[]cast.Edge](t)(cast.Leaks(l)), want)
	}
}

// touching returns how many of the four faces around an edge are in a list: the axes are those across the edge.
func touching(l []cast.Face, c api.Cell, b, d int) int {
	n := 0
	for _, f := range []cast.Face{{At: c, Axis: b}, {At: c, Axis: d}, {At: moved(c, d, -1), Axis: b}, {At: moved(c, b, -1), Axis: d}} {
		if slices.Contains(l, f) {
			n++
		}
	}
	return n
}

func TestFill(t *testing.T) {
	same(t, "Fill", fine[[]api.Cell](t)(cast.Fill(cellFaces())), []api.Cell{at(0, 0, 0)})
	same(t, "Fill of nothing", fine[[]api.Cell](t)(cast.Fill(nil)), nil)
	for i := range cellFaces() {
		got, e := cast.Fill(slices.Delete(cellFaces(), i, i+1))
		refused(t, "Fill with a hole", got, e, api.ErrHole)
	}
	for _, b := range []grid.Box{box(at(-1, 2, 3), at(1, 5, 4)), box(at(-1000, 7, 7), at(1000, 7, 8)), box(at(1000, 1000, 999), at(1000, 1000, 1000)), box(at(0, 0, 0), at(15, 15, 15))} {
		same(t, "Fill of a box", fine[[]api.Cell](t)(cast.Fill(wall(b))), block(t, b.Low, b.High))
	}
	// A wall within a wall encloses what is between them.
	var hollow []api.Cell
	for c := range cells(box(at(-2, -2, -2), at(2, 2, 2))) {
		if max(c.X, -c.X, c.Y, -c.Y, c.Z, -c.Z) == 2 {
			hollow = append(hollow, c)
		}
	}
	walls := inOrder(slices.Concat(wall(box(at(-2, -2, -2), at(2, 2, 2))), wall(box(at(-1, -1, -1), at(1, 1, 1)))))
	same(t, "Fill of two walls", fine[[]api.Cell](t)(cast.Fill(walls)), hollow)
	same(t, "Surface of what is between", fine[[]cast.Face](t)(cast.Surface(hollow)), walls)
	most := checkered(box(at(0, 0, 0), at(15, 15, 31)))
	same(t, "Fill of the most faces", fine[[]api.Cell](t)(cast.Fill(fine[[]cast.Face](t)(cast.Surface(most)))), most)
	for _, b := range []grid.Box{box(at(0, 0, 0), at(0, 16, 240)), box(at(0, 0, 0), at(15, 15, 16)), box(at(-1000, -1, -1), at(1000, 0, 1)), box(at(-1, -20, -20), at(1, 20, 20))} {
		got, e := cast.Fill(wall(b))
		refused(t, "Fill with too many cells", got, e, api.ErrMany)
		got, e = cast.Fill(wall(b)[1:])
		refused(t, "Fill with a hole, and too many cells", got, e, api.ErrHole)
	}
	// Two rows with 4097 cells together, of which neither has too many.
	long := inOrder(slices.Concat(wall(box(at(0, 0, 0), at(96, 0, 0))), wall(box(at(-1000, 5, 5), at(999, 5, 6)))))
	got, e := cast.Fill(long)
	refused(t, "Fill with a cell too many", got, e, api.ErrMany)
	fits := inOrder(slices.Concat(wall(box(at(0, 0, 0), at(95, 0, 0))), wall(box(at(-1000, 5, 5), at(999, 5, 6)))))
	same(t, "Fill with the most cells", len(fine[[]api.Cell](t)(cast.Fill(fits))), 4096)
}

func TestErrorsOfFaces(t *testing.T) {
	far := func(c api.Cell, axis int) []cast.Face { return []cast.Face{{At: at(-1000, 0, 0)}, {At: c, Axis: axis}} }
	type row struct {
		what string
		l    []cast.Face
		e    api.Errno
	}
	rows := []row{
		{"24577 faces", make([]cast.Face, 24577), api.ErrMany}, {"24577 faces that are none", slices.Repeat([]cast.Face{{Axis: 7}}, 24577), api.ErrMany},
		{"the axis 3", []cast.Face{{Axis: 3}}, api.ErrKind}, {"the axis -1", []cast.Face{{Axis: -1}}, api.ErrKind}, {"the greatest axis", far(at(greatest, 0, 0), greatest), api.ErrKind}, {"the least axis", far(at(0, 0, 0), least), api.ErrKind},
		{"no axis, and no order", []cast.Face{{At: at(1, 0, 0)}, {Axis: 3}}, api.ErrKind},
		{"X beyond the border", far(at(1001, 0, 0), 1), api.ErrRange}, {"X beyond the border", far(at(1001, 0, 0), 2), api.ErrRange}, {"X too far", far(at(1002, 0, 0), 0), api.ErrRange}, {"X below", far(at(-1001, 0, 0), 0), api.ErrRange},
		{"Y beyond the border", far(at(0, 1001, 0), 0), api.ErrRange}, {"Y beyond the border", far(at(0, 1001, 0), 2), api.ErrRange}, {"Y too far", far(at(0, 1002, 0), 1), api.ErrRange}, {"Y below", far(at(0, -1001, 0), 1), api.ErrRange},
		{"Z beyond the border", far(at(0, 0, 1001), 0), api.ErrRange}, {"Z beyond the border", far(at(0, 0, 1001), 1), api.ErrRange}, {"Z too far", far(at(0, 0, 1002), 2), api.ErrRange}, {"Z below", far(at(0, 0, -1001), 2), api.ErrRange},
		{"two beyond the border", far(at(1001, 1001, 0), 0), api.ErrRange}, {"the least integer", far(at(least, 0, 0), 0), api.ErrRange}, {"the greatest integer", far(at(0, 0, greatest), 2), api.ErrRange},
		{"far, and no order", []cast.Face{{At: at(1, 0, 0)}, {At: at(0, 0, -1001)}}, api.ErrRange},
		{"the same face", []cast.Face{{Axis: 1}, {Axis: 1}}, api.ErrOrder}, {"the axes", []cast.Face{{Axis: 1}, {Axis: 0}}, api.ErrOrder}, {"the cells", []cast.Face{{At: at(0, 0, 1), Axis: 0}, {At: at(0, 0, 0), Axis: 2}}, api.ErrOrder},
		{"no order, then no axis", []cast.Face{{Axis: 1}, {Axis: 0}, {Axis: 3}}, api.ErrOrder}, {"the third", append(cellFaces(), cast.Face{At: at(0, 9, 9)}), api.ErrOrder},
	}
	for _, row := range rows {
		edges, e := cast.Leaks(row.l)
		refused(t, "Leaks, "+row.what, edges, e, row.e)
		l, e := cast.Fill(row.l)
		refused(t, "Fill, "+row.what, l, e, row.e)
	}
	for axis := range 3 {
		for _, by := range []int{-1000, 1001} {
			edges, e := cast.Leaks(far(moved(at(0, 0, 0), axis, by), axis)[1:])
			same(t, "a face at the border", e, api.OK)
			same(t, "its edges", len(edges), 4)
		}
	}
	var faces []cast.Face
	for c := range cells(box(at(0, 0, 0), at(15, 15, 31))) {
		faces = append(faces, cast.Face{At: c, Axis: 0}, cast.Face{At: c, Axis: 1}, cast.Face{At: c, Axis: 2})
	}
	_, e := cast.Leaks(faces)
	same(t, "24576 faces", e, api.OK)
}
