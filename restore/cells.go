package restore

import (
	"cmp"
	"iter"
	"maps"
	"math"
	"slices"

	"cusp/api"
)

func plus(a, b api.Cell) api.Cell { return api.Cell{X: a.X + b.X, Y: a.Y + b.Y, Z: a.Z + b.Z} }

func times(n int, a api.Cell) api.Cell { return api.Cell{X: n * a.X, Y: n * a.Y, Z: n * a.Z} }

// minus returns the vector to a cell from another one.
func minus(to, from api.Cell) api.Cell { return plus(to, times(-1, from)) }

// steps returns the number of steps from neighbour to neighbour along a vector.
func steps(v api.Cell) int { return max(v.X, -v.X) + max(v.Y, -v.Y) + max(v.Z, -v.Z) }

func compare(a, b api.Cell) int {
	return cmp.Or(cmp.Compare(a.X, b.X), cmp.Compare(a.Y, b.Y), cmp.Compare(a.Z, b.Z))
}

// setOf returns the set of the elements of lists.
func setOf[T comparable](lists ...[]T) map[T]bool {
	set := map[T]bool{}
	for _, l := range lists {
		for _, x := range l {
			set[x] = true
		}
	}
	return set
}

// ascending returns the cells of a set of any size in their order.
func ascending(set map[api.Cell]bool) []api.Cell {
	return slices.SortedFunc(maps.Keys(set), compare)
}

// where visits the cells of a list of which something is so, in their order.
func where(l []api.Cell, is func(api.Cell) bool) iter.Seq[api.Cell] {
	return func(yield func(api.Cell) bool) {
		for _, c := range l {
			if is(c) && !yield(c) {
				return
			}
		}
	}
}

// neighbours visits the neighbours of a cell, also those beyond the border of the grid.
func neighbours(c api.Cell) iter.Seq[api.Cell] {
	return func(yield func(api.Cell) bool) {
		for _, to := range [3]api.Cell{{X: 1}, {Y: 1}, {Z: 1}} {
			if !yield(plus(c, to)) || !yield(minus(c, to)) {
				return
			}
		}
	}
}

// besides returns how many neighbours of a cell are in a set.
func besides(c api.Cell, set map[api.Cell]bool) int {
	count := 0
	for n := range neighbours(c) {
		if set[n] {
			count++
		}
	}
	return count
}

// body is cells to which others are near or far.
type body []api.Cell

// distance returns the number of steps from a cell to the nearest one of a body.
func (b body) distance(from api.Cell) int {
	least := math.MaxInt
	for _, c := range b {
		least = min(least, steps(minus(c, from)))
	}
	return least
}
