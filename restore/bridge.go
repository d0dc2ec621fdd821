package restore

import (
	"cmp"
	"slices"

	"cusp/api"
	"cusp/grid"
)

// empty returns sections without cells, for all X from one to another one.
func empty(from, to int) []Section {
	var l []Section
	for x := from; x <= to; x++ {
		l = append(l, Section{X: x})
	}
	return l
}

// with returns sections to which the cells of a part are added; those at another X are left out.
func with(sections []Section, part []api.Cell) []Section {
	l := slices.Clone(sections)
	for _, c := range part {
		if n := c.X - l[0].X; n >= 0 && n < len(l) {
			l[n].Cells++
		}
	}
	return l
}

// Sections returns how many cells a part has at each X.
func Sections(part []api.Cell) ([]Section, api.Errno) {
	if e := checkSome(part); e != api.OK {
		return nil, e
	}
	return with(empty(part[0].X, part[len(part)-1].X), part), api.OK
}

// Connector returns the section with the fewest cells between two X.
func Connector(part []api.Cell, from, to int) (Section, api.Errno) {
	if e := first(checkSome(part), checkCoordinate(from), checkCoordinate(to)); e != api.OK {
		return Section{}, e
	}
	if from > to {
		return Section{}, api.ErrOrder
	}
	return slices.MinFunc(with(empty(from, to), part), func(a, b Section) int {
		return cmp.Compare(a.Cells, b.Cells)
	}), api.OK
}

// Bridge returns the crowns of plans and cells between them as one part.
func Bridge(l []Plan, between []api.Cell) ([]api.Cell, api.Errno) {
	if e := first(checkPlans(l), grid.CheckCells(between)); e != api.OK {
		return nil, e
	}
	if slices.ContainsFunc(l, func(p Plan) bool { return p.Way != l[0].Way }) {
		return nil, api.ErrConflict
	}
	lists := [][]api.Cell{between}
	for _, p := range l {
		lists = append(lists, p.Shape)
	}
	// These may be more cells than a set has: enough of them may be blocked.
	bridge := ascending(setOf(lists...))
	for _, p := range l {
		_, bridge = p.split(bridge)
	}
	if len(bridge) > api.MaxCells {
		return nil, api.ErrMany
	}
	if !isWhole(bridge) {
		return nil, api.ErrOpen
	}
	return bridge, api.OK
}

// Layers returns how many cells of a part are 1, 2 and so on steps below its surface.
func Layers(part []api.Cell) ([]int, api.Errno) {
	if e := grid.CheckCells(part); e != api.OK {
		return nil, e
	}
	var layers []int
	for left := part; len(left) > 0; {
		shell, _ := grid.Shell(left)
		layers = append(layers, len(shell))
		left, _ = grid.Less(left, shell)
	}
	return layers, api.OK
}
