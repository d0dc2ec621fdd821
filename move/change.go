package move

import (
	"slices"

	"cusp/api"
	"cusp/grid"
)

// changed returns a copy of a case whose teeth are changed one by one.
func (c Case) changed(change func(Tooth) Tooth) Case {
	c.Teeth = listOf(c.Teeth, func(t Tooth) Tooth {
		t.Cells = slices.Clone(t.Cells)
		return change(t)
	})
	return c
}

// checkPlaces returns the first error of a list of a place for each of some teeth, or OK.
func checkPlaces(s []Place, teeth int) api.Errno {
	if len(s) != teeth {
		return api.ErrShape
	}
	return first(listOf(s, Place.check)...)
}

// checkLists returns the first error of a case, and of a plan of which it does not matter where the teeth are, or OK.
func checkLists(c Case, plan [][]Place) api.Errno {
	if e := first(CheckCase(c), when(len(plan) > MaxPlan, api.ErrMany)); e != api.OK {
		return e
	}
	return first(listOf(plan, func(s []Place) api.Errno { return checkPlaces(s, len(c.Teeth)) })...)
}

// Backwards returns a case and a plan backwards.
func Backwards(c Case, plan [][]Place) (Case, [][]Place, api.Errno) {
	if e := checkLists(c, plan); e != api.OK {
		return Case{}, nil, e
	}
	back := listOf(plan, slices.Clone[[]Place])
	slices.Reverse(back)
	return c.changed(func(t Tooth) Tooth {
		t.From, t.To = t.To, t.From
		return t
	}), back, api.OK
}

// Mirrored returns a case and a plan that are mirrored.
func Mirrored(c Case, plan [][]Place) (Case, [][]Place, api.Errno) {
	if e := checkLists(c, plan); e != api.OK {
		return Case{}, nil, e
	}
	image := c.changed(func(t Tooth) Tooth {
		t.Cells, _ = grid.Mirror(t.Cells, 0, 0)
		t.From, t.To = t.From.mirrored(), t.To.mirrored()
		return t
	})
	image.Low.X, image.High.X = -c.High.X, -c.Low.X
	return image, listOf(plan, func(s []Place) []Place { return listOf(s, Place.mirrored) }), api.OK
}

// Strip returns a case in which cells of a tooth are taken away.
func Strip(c Case, tooth int, cells []api.Cell) (Case, api.Errno) {
	if e := first(CheckCase(c), c.checkNumber(tooth), grid.CheckCells(cells)); e != api.OK {
		return Case{}, e
	}
	unknown, _ := grid.Less(cells, c.Teeth[tooth].Cells)
	left, _ := grid.Less(c.Teeth[tooth].Cells, cells)
	if e := first(when(len(unknown) > 0, api.ErrUnknown), when(len(left) == 0, api.ErrEmpty)); e != api.OK {
		return Case{}, e
	}
	stripped := c.changed(func(t Tooth) Tooth { return t })
	stripped.Teeth[tooth].Cells = left
	return stripped, api.OK
}
