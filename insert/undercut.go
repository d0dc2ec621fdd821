package insert

import (
	"iter"
	"maps"
	"slices"

	"cusp/api"
	"cusp/grid"
)

// volume returns the number of the cells of a box.
func volume(box grid.Box) int {
	size := minus(box.High, box.Low)
	return (size.X + 1) * (size.Y + 1) * (size.Z + 1)
}

// below visits the cells of the box of an obstacle that come to one of its cells along a direction, and that cell.
func (o obstacle) below(c, d api.Cell) iter.Seq[api.Cell] {
	return func(yield func(api.Cell) bool) {
		// Further steps never lead back into the box.
		for k := 0; ; k++ {
			from := minus(c, way(d, k))
			if !isIn(o.box, from) || !yield(from) {
				return
			}
		}
	}
}

// undercuts returns the undercuts of a base, or their error.
func undercuts(base []api.Cell, d api.Cell) ([]api.Cell, api.Errno) {
	o := obstacleOf(base)
	if volume(o.box) > api.MaxVolume {
		return nil, api.ErrLarge
	}
	found := map[api.Cell]bool{}
	for _, c := range base {
		for from := range o.below(c, d) {
			if !o.has[from] {
				found[from] = true
			}
		}
		if len(found) > api.MaxCells {
			return nil, api.ErrMany
		}
	}
	return grid.Sorted(slices.Collect(maps.Keys(found)))
}

// Undercuts returns the cells around a base that cannot go out along a direction.
func Undercuts(base []api.Cell, d api.Cell) ([]api.Cell, api.Errno) {
	if e := first(grid.CheckCells(base), CheckDirection(d)); e != api.OK {
		return nil, e
	}
	return undercuts(base, d)
}

// Blockout returns a base with its undercuts filled.
func Blockout(base []api.Cell, d api.Cell) ([]api.Cell, api.Errno) {
	filling, e := Undercuts(base, d)
	if e != api.OK {
		return nil, e
	}
	return grid.Union(base, filling)
}
