package bite

import (
	"iter"

	"cusp/api"
	"cusp/grid"
)

// steps visits the positions to which a path can go from a position, ascending.
func steps(from api.Cell) iter.Seq[api.Cell] {
	return func(yield func(api.Cell) bool) {
		for n := range 27 {
			to := plus(from, api.Cell{X: n/9 - 1, Y: n/3%3 - 1, Z: n%3 - 1})
			if to != from && !yield(to) {
				return
			}
		}
	}
}

// isFree reports whether there are no hits when a lower set is shifted by a vector.
func isFree(upper []api.Cell, lower set, by api.Cell) bool {
	back := shiftBack(by)
	for _, c := range upper {
		if lower[back(c)] {
			return false
		}
	}
	return true
}

// free returns those of some positions at which a bite has no hits.
func (b Bite) free(positions []api.Cell) set {
	lower := setOf(b.Lower)
	free := set{}
	for _, at := range positions {
		if isFree(b.Upper, lower, at) {
			free[at] = true
		}
	}
	return free
}

// stepsTo returns the numbers of steps from positions to one of them, at least for from and all that are nearer.
// A position from which one does not come to it has none.
func stepsTo(to api.Cell, positions set, from api.Cell) map[api.Cell]int {
	left := map[api.Cell]int{to: 0}
	met := []api.Cell{to}
search:
	for i := 0; i < len(met); i++ {
		for c := range steps(met[i]) {
			if _, known := left[c]; known || !positions[c] {
				continue
			}
			left[c] = left[met[i]] + 1
			if c == from {
				break search
			}
			met = append(met, c)
		}
	}
	return left
}

// nearer returns the least position to which a path can go from a position, with so many steps left there.
func nearer(from api.Cell, left map[api.Cell]int, wanted int) api.Cell {
	for c := range steps(from) {
		if n, known := left[c]; known && n == wanted {
			return c
		}
	}
	return from
}

// shortest returns the shortest way by some positions, or its error.
func shortest(positions set, from, to api.Cell) ([]api.Cell, api.Errno) {
	left := stepsTo(to, positions, from)
	n, found := left[from]
	if !found {
		return nil, api.ErrInfeasible
	}
	if n+1 > MaxPath {
		return nil, api.ErrMany
	}
	way := []api.Cell{from}
	for i := range n {
		way = append(way, nearer(way[i], left, n-1-i))
	}
	return way, api.OK
}

// Way returns a shortest path in a box, without hits.
func Way(b Bite, box grid.Box, from, to api.Cell) ([]api.Cell, api.Errno) {
	if e := CheckBite(b); e != api.OK {
		return nil, e
	}
	positions, e := grid.Block(box)
	if e != api.OK {
		return nil, e
	}
	if e := first(checkMember(positions, from), checkMember(positions, to), checkShifts(b.Lower, box.Low, box.High)); e != api.OK {
		return nil, e
	}
	free := b.free(positions)
	if !free[from] || !free[to] {
		return nil, api.ErrHit
	}
	return shortest(free, from, to)
}
