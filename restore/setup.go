package restore

import (
	"slices"

	"cusp/api"
	"cusp/grid"
)

// checkArch returns the error of an arch, or OK.
func checkArch(arch []api.Cell) api.Errno { return checkEach(arch, api.MaxList, checkCell) }

// checkWidths returns the error of widths for so many teeth along so many cells, or OK.
func checkWidths(widths []int, teeth, cells int) api.Errno {
	if len(widths) != teeth {
		return api.ErrShape
	}
	all := 0
	for _, w := range widths {
		if e := within(w, 1, api.MaxList); e != api.OK {
			return e
		}
		all += w
	}
	if all > cells {
		return api.ErrNone
	}
	return api.OK
}

// Setup returns teeth that are set one after another along an arch.
func Setup(arch []api.Cell, teeth [][]api.Cell, widths []int) ([][]api.Cell, api.Errno) {
	e := first(checkArch(arch), checkEach(teeth, api.MaxTeeth, checkSome), checkWidths(widths, len(teeth), len(arch)))
	if e != api.OK {
		return nil, e
	}
	var out [][]api.Cell
	taken, before := map[api.Cell]bool{}, 0
	for i, tooth := range teeth {
		there := arch[before+widths[i]/2]
		set, e := grid.Shift(tooth, minus(there, tooth[0]))
		if e != api.OK {
			return nil, e
		}
		if slices.ContainsFunc(set, func(c api.Cell) bool { return taken[c] }) {
			return nil, api.ErrHit
		}
		for _, c := range set {
			taken[c] = true
		}
		out, before = append(out, set), before+widths[i]
	}
	return out, api.OK
}
