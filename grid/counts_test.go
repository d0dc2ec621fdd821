package grid_test

import (
	"slices"
	"testing"

	"cusp/api"
	"cusp/grid"
)

// shape is a set with what is known of it.
type shape struct {
	what     string
	l        []api.Cell
	count    grid.Count
	cavities [][]api.Cell
	tunnels  int
}

// ring returns the cells of a plane that have the distance 1 from a cell, or a corner in common with it.
func ring(t *testing.T, x, y int) []api.Cell {
	return without(block(t, at(x-1, y-1, 0), at(x+1, y+1, 0)), at(x, y, 0))
}

// tube returns a ring of cells, three high and three wide, with a hollow ring inside.
func tube(t *testing.T) []api.Cell {
	l := block(t, at(-3, -3, -1), at(3, 3, 1))
	l = without(l, at(0, 0, -1), at(0, 0, 0), at(0, 0, 1))
	return slices.DeleteFunc(l, func(c api.Cell) bool { return c.Z == 0 && max(absolute(c.X), absolute(c.Y)) == 2 })
}

// frame returns the edges of a block of 3 by 3 by 3 cells.
func frame(t *testing.T) []api.Cell {
	return slices.DeleteFunc(block(t, at(-1, -1, -1), at(1, 1, 1)), func(c api.Cell) bool { return distance(c, at(0, 0, 0)) < 2 })
}

func shapes(t *testing.T) []shape {
	hollow := [][]api.Cell{origin()}
	var circle []api.Cell
	for _, c := range block(t, at(-2, -2, 0), at(2, 2, 0)) {
		if max(absolute(c.X), absolute(c.Y)) == 2 {
			circle = append(circle, c)
		}
	}
	return []shape{
		{"nothing", nil, grid.Count{}, nil, 0},
		{"one cell", origin(), grid.Count{Cells: 1, Faces: 6, Edges: 12, Corners: 8, Surface: 6, Euler: 1}, nil, 0},
		{"one cell at the border", []api.Cell{at(-1000, 1000, -1000)}, grid.Count{Cells: 1, Faces: 6, Edges: 12, Corners: 8, Surface: 6, Euler: 1}, nil, 0},
		{"A", corner(), grid.Count{Cells: 3, Faces: 16, Edges: 28, Corners: 16, Surface: 14, Euler: 1}, nil, 0},
		{"a ring", ring(t, 0, 0), grid.Count{Cells: 8, Faces: 40, Edges: 64, Corners: 32, Surface: 32, Euler: 0}, nil, 1},
		{"two rings", ordered(append(ring(t, 0, 0), ring(t, 2, 0)...)), grid.Count{Cells: 13, Faces: 64, Edges: 100, Corners: 48, Surface: 50, Euler: -1}, nil, 2},
		{"a hollow block", without(block(t, at(-1, -1, -1), at(1, 1, 1)), at(0, 0, 0)), grid.Count{Cells: 26, Faces: 108, Edges: 144, Corners: 64, Surface: 60, Euler: 2}, hollow, 0},
		{"a frame", frame(t), grid.Count{Cells: 20, Faces: 96, Edges: 144, Corners: 64, Surface: 72, Euler: -4}, nil, 5},
		{"a tube", tube(t), grid.Count{Cells: 128, Faces: 512, Edges: 640, Corners: 256, Surface: 256, Euler: 0}, [][]api.Cell{circle}, 2},
		{"two cells with a corner", []api.Cell{at(0, 0, 0), at(1, 1, 1)}, grid.Count{Cells: 2, Faces: 12, Edges: 24, Corners: 15, Surface: 12, Euler: 1}, nil, 0},
		{"two cells with an edge", []api.Cell{at(0, 0, 0), at(1, 1, 0)}, grid.Count{Cells: 2, Faces: 12, Edges: 23, Corners: 14, Surface: 12, Euler: 1}, nil, 0},
		{"two cells apart", []api.Cell{at(0, 0, 0), at(3, 0, 0)}, grid.Count{Cells: 2, Faces: 12, Edges: 24, Corners: 16, Surface: 12, Euler: 2}, nil, 0},
		{"four cells around one, by edges", []api.Cell{at(-1, 0, 0), at(0, -1, 0), at(0, 1, 0), at(1, 0, 0)}, grid.Count{Cells: 4, Faces: 24, Edges: 44, Corners: 24, Surface: 24, Euler: 0}, nil, 1},
		{"six cells around one", []api.Cell{at(-1, 0, 0), at(0, -1, 0), at(0, 0, -1), at(0, 0, 1), at(0, 1, 0), at(1, 0, 0)}, grid.Count{Cells: 6, Faces: 36, Edges: 60, Corners: 32, Surface: 36, Euler: 2}, hollow, 0},
	}
}

func TestShapes(t *testing.T) {
	for _, s := range shapes(t) {
		same(t, "Counts of "+s.what, fine[grid.Count](t)(grid.Counts(s.l)), s.count)
		sameList(t, "Cavities of "+s.what, fine[[][]api.Cell](t)(grid.Cavities(s.l)), s.cavities)
		same(t, "Tunnels of "+s.what, fine[int](t)(grid.Tunnels(s.l)), s.tunnels)
	}
}

// counted counts faces, edges and corners by their ends: two opposite corners.
func counted(l []api.Cell) grid.Count {
	elements := map[[2]api.Cell]int{}
	for _, c := range l {
		for code := range 27 {
			// Along each axis an element is the lower end of the cell, the upper one, or goes from the one to the other.
			low, high := c, c
			for i, n := range []int{code % 3, code / 3 % 3, code / 9} {
				from, to := []*int{&low.X, &low.Y, &low.Z}[i], []*int{&high.X, &high.Y, &high.Z}[i]
				*from, *to = *from+[]int{0, 1, 0}[n], *to+[]int{0, 1, 1}[n]
			}
			elements[[2]api.Cell{low, high}]++
		}
	}
	var kinds [4]int
	surface := 0
	for e, times := range elements {
		kind := distance(e[0], e[1])
		kinds[kind]++
		if kind == 2 && times == 1 {
			surface++
		}
	}
	return grid.Count{Cells: kinds[3], Faces: kinds[2], Edges: kinds[1], Corners: kinds[0], Surface: surface, Euler: kinds[0] - kinds[1] + kinds[2] - kinds[3]}
}

// hollows returns the parts of the cells without a set, up to a size, that do not come out of it.
func hollows(t *testing.T, l []api.Cell, size int) [][]api.Cell {
	rest := without(block(t, at(-size, -size, -size), at(size, size, size)), l...)
	return slices.DeleteFunc(partsOf(rest, neighbours), func(p []api.Cell) bool {
		return slices.ContainsFunc(p, func(c api.Cell) bool { return max(absolute(c.X), absolute(c.Y), absolute(c.Z)) == size })
	})
}

func byCorners(a, b api.Cell) bool {
	return max(absolute(a.X-b.X), absolute(a.Y-b.Y), absolute(a.Z-b.Z)) == 1
}

func TestCountsOfMany(t *testing.T) {
	r := dice()
	found := 0
	for i := range 60 {
		l := scattered(r, 2, 2+i%3)
		if i%2 == 0 {
			l = without(block(t, at(-2, -2, -2), at(2, 2, 2)), scattered(r, 2, 3+i%4)...)
		}
		count, holes := counted(l), hollows(t, l, 3)
		found += len(holes)
		same(t, "Counts", fine[grid.Count](t)(grid.Counts(l)), count)
		sameList(t, "Cavities", fine[[][]api.Cell](t)(grid.Cavities(l)), holes)
		same(t, "Tunnels", fine[int](t)(grid.Tunnels(l)), len(partsOf(l, byCorners))+len(holes)-count.Euler)
	}
	if found < 50 {
		t.Errorf("only %d cavities", found)
	}
}

func TestCavities(t *testing.T) {
	// Cavities that touch by an edge alone are two; their order is that of their least cells.
	two := without(block(t, at(-2, -2, -1), at(2, 2, 1)), at(0, 1, 0), at(1, 0, 0))
	sameList(t, "Cavities", fine[[][]api.Cell](t)(grid.Cavities(two)), [][]api.Cell{{at(0, 1, 0)}, {at(1, 0, 0)}})
	// A cell within a cavity is no part of it.
	var nested []api.Cell
	for _, c := range block(t, at(-2, -2, -2), at(2, 2, 2)) {
		if max(absolute(c.X), absolute(c.Y), absolute(c.Z)) != 1 {
			nested = append(nested, c)
		}
	}
	inner := without(block(t, at(-1, -1, -1), at(1, 1, 1)), at(0, 0, 0))
	sameList(t, "Cavities", fine[[][]api.Cell](t)(grid.Cavities(nested)), [][]api.Cell{inner})
	// Cells beyond the border of the grid are open, too.
	edge := block(t, at(998, -1, -1), at(1000, 1, 1))
	sameList(t, "Cavities at the border", fine[[][]api.Cell](t)(grid.Cavities(without(edge, at(1000, 0, 0)))), nil)
	sameList(t, "Cavities at the border", fine[[][]api.Cell](t)(grid.Cavities(without(edge, at(999, 0, 0)))), [][]api.Cell{{at(999, 0, 0)}})
	// A cavity may have more cells than a set.
	var walls []api.Cell
	for x := range 26 {
		for y := range 26 {
			for z := range 26 {
				if min(x, y, z) == 0 || max(x, y, z) == 25 {
					walls = append(walls, at(x, y, z))
				}
			}
		}
	}
	large := fine[[][]api.Cell](t)(grid.Cavities(walls))
	same(t, "Cavities of walls", len(large), 1)
	same(t, "the cells of a large cavity", len(large[0]), 24*24*24)
	same(t, "Tunnels of walls", fine[int](t)(grid.Tunnels(walls)), 0)
}

func TestLimitOfCounts(t *testing.T) {
	most := []api.Cell{at(0, 0, 0), at(99, 99, 9)}
	same(t, "Counts", fine[grid.Count](t)(grid.Counts(most)), grid.Count{Cells: 2, Faces: 12, Edges: 24, Corners: 16, Surface: 12, Euler: 2})
	sameList(t, "Cavities", fine[[][]api.Cell](t)(grid.Cavities(most)), nil)
	same(t, "Tunnels", fine[int](t)(grid.Tunnels(most)), 0)
	line := fine[grid.Count](t)(grid.Counts([]api.Cell{at(0, 0, -1000), at(0, 0, 1000)}))
	same(t, "Counts of a line", line.Euler, 2)
	for _, wide := range [][]api.Cell{{at(0, -543, 0), at(91, 543, 0)}, {at(-500, 0, 0), at(500, 100, 0)}, {at(-1000, -1000, -1000), at(1000, 1000, 1000)}} {
		c, e := grid.Counts(wide)
		refused(t, "Counts", c, e, api.ErrLimit)
		l, e := grid.Cavities(wide)
		refused(t, "Cavities", l, e, api.ErrLimit)
		n, e := grid.Tunnels(wide)
		refused(t, "Tunnels", n, e, api.ErrLimit)
		slices.Reverse(wide)
		c, e = grid.Counts(wide)
		refused(t, "Counts of no set", c, e, api.ErrOrder)
	}
}
