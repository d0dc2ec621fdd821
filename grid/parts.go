package grid

import (
	"iter"
	"slices"
	"sort"

	"cusp/api"
)

// neighbours visits the neighbours of a cell, ascending, also those beyond the border of the grid.
func neighbours(c api.Cell) iter.Seq[api.Cell] {
	return func(yield func(api.Cell) bool) {
		_ = yield(api.Cell{X: c.X - 1, Y: c.Y, Z: c.Z}) &&
			yield(api.Cell{X: c.X, Y: c.Y - 1, Z: c.Z}) &&
			yield(api.Cell{X: c.X, Y: c.Y, Z: c.Z - 1}) &&
			yield(api.Cell{X: c.X, Y: c.Y, Z: c.Z + 1}) &&
			yield(api.Cell{X: c.X, Y: c.Y + 1, Z: c.Z}) &&
			yield(api.Cell{X: c.X + 1, Y: c.Y, Z: c.Z})
	}
}

// around visits the 27 cells that have at least a corner in common with a cell: itself, too.
func around(c api.Cell) iter.Seq[api.Cell] {
	return Box{
		Low:  api.Cell{X: c.X - 1, Y: c.Y - 1, Z: c.Z - 1},
		High: api.Cell{X: c.X + 1, Y: c.Y + 1, Z: c.Z + 1},
	}.cells()
}

// part returns the cells to which one comes from a cell, if take takes it.
// take reports whether a cell belongs to the set and has not been taken before.
func part(from api.Cell, near func(api.Cell) iter.Seq[api.Cell], take func(api.Cell) bool) []api.Cell {
	if !take(from) {
		return nil
	}
	l := []api.Cell{from}
	for i := 0; i < len(l); i++ {
		for c := range near(l[i]) {
			if take(c) {
				l = append(l, c)
			}
		}
	}
	return l
}

// parts returns the parts of a set, ordered by their least cells.
func parts(l []api.Cell, near func(api.Cell) iter.Seq[api.Cell]) [][]api.Cell {
	left := setOf(l)
	take := func(c api.Cell) bool {
		has := left[c]
		delete(left, c)
		return has
	}
	var out [][]api.Cell
	for _, c := range l {
		if p := part(c, near, take); len(p) > 0 {
			out = append(out, sorted(p))
		}
	}
	return out
}

// Parts returns the parts of a set.
func Parts(l []api.Cell) ([][]api.Cell, api.Errno) {
	if e := CheckCells(l); e != api.OK {
		return nil, e
	}
	return parts(l, neighbours), api.OK
}

// peel returns the shell of a set, and the cells that are not of the shell.
func peel(l []api.Cell) (shell, rest []api.Cell) {
	all := setOf(l)
cells:
	for _, c := range l {
		for n := range neighbours(c) {
			if !all[n] {
				shell = append(shell, c)
				continue cells
			}
		}
		rest = append(rest, c)
	}
	return shell, rest
}

// Shell returns the shell of a set.
func Shell(l []api.Cell) ([]api.Cell, api.Errno) {
	if e := CheckCells(l); e != api.OK {
		return nil, e
	}
	shell, _ := peel(l)
	return shell, api.OK
}

// Grow returns a set that is grown by some steps.
func Grow(l []api.Cell, n int) ([]api.Cell, api.Errno) {
	if e := first(CheckCells(l), within(n, 0, api.MaxGrow)); e != api.OK {
		return nil, e
	}
	all := setOf(l)
	edge := l
growth:
	for range n {
		var next []api.Cell
		for _, c := range edge {
			for d := range neighbours(c) {
				if all[d] {
					continue
				}
				all[d] = true
				next = append(next, d)
				// More steps make it no smaller.
				if len(all) > api.MaxCells {
					break growth
				}
			}
		}
		edge = next
	}
	if len(all) > api.MaxCells {
		return nil, api.ErrMany
	}
	grown := all.cells()
	if e := checkEach(grown); e != api.OK {
		return nil, e
	}
	return grown, api.OK
}

// Shrink returns a set that is shrunk by some steps.
func Shrink(l []api.Cell, n int) ([]api.Cell, api.Errno) {
	if e := first(CheckCells(l), within(n, 0, api.MaxGrow)); e != api.OK {
		return nil, e
	}
	left := slices.Clone(l)
	for i := 0; i < n && len(left) > 0; i++ {
		_, left = peel(left)
	}
	return left, api.OK
}

// distance returns the number of steps from one cell to another one.
func distance(a, b api.Cell) int {
	return max(a.X-b.X, b.X-a.X) + max(a.Y-b.Y, b.Y-a.Y) + max(a.Z-b.Z, b.Z-a.Z)
}

// Apart returns the distance of two sets.
func Apart(a, b []api.Cell) (int, api.Errno) {
	if e := first(CheckCells(a), CheckCells(b)); e != api.OK {
		return 0, e
	}
	if len(a) == 0 || len(b) == 0 {
		return 0, api.ErrEmpty
	}
	least := distance(a[0], b[0])
	for _, c := range a {
		// Only cells whose X is near enough can be nearer than the nearest ones so far.
		from := sort.Search(len(b), func(i int) bool { return b[i].X > c.X-least })
		for _, d := range b[from:] {
			if d.X >= c.X+least {
				break
			}
			least = min(least, distance(c, d))
		}
	}
	return least, api.OK
}

// checkMember returns the error of a cell, ErrUnknown if it is not in a set, or OK.
func checkMember(l []api.Cell, c api.Cell) api.Errno {
	if e := checkCell(c); e != api.OK {
		return e
	}
	if !slices.Contains(l, c) {
		return api.ErrUnknown
	}
	return api.OK
}

// stepsTo returns the numbers of steps in a set from its cells to one of them, at least for from and all cells that are nearer.
// A cell from which one does not come to it has none.
func stepsTo(to api.Cell, l []api.Cell, from api.Cell) map[api.Cell]int {
	all := setOf(l)
	steps := map[api.Cell]int{to: 0}
	met := []api.Cell{to}
growth:
	for i := 0; i < len(met); i++ {
		for c := range neighbours(met[i]) {
			if _, known := steps[c]; known || !all[c] {
				continue
			}
			steps[c] = steps[met[i]] + 1
			if c == from {
				break growth
			}
			met = append(met, c)
		}
	}
	return steps
}

// Path returns the shortest path in a set.
func Path(l []api.Cell, from, to api.Cell) ([]api.Cell, api.Errno) {
	if e := first(CheckCells(l), checkMember(l, from), checkMember(l, to)); e != api.OK {
		return nil, e
	}
	steps := stepsTo(to, l, from)
	left, found := steps[from]
	if !found {
		return nil, api.ErrNone
	}
	path := []api.Cell{from}
	for ; left > 0; left-- {
		for c := range neighbours(path[len(path)-1]) {
			// The neighbours ascend, so that the first one that is nearer leads to the lexicographically first path.
			if n, known := steps[c]; known && n == left-1 {
				path = append(path, c)
				break
			}
		}
	}
	return path, api.OK
}
