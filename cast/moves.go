package cast

import (
	"cusp/api"
	"cusp/grid"
)

// move moves the cells of a set, or returns an error.
type move func(l []api.Cell) ([]api.Cell, api.Errno)

// all returns a set that can be moved, where it is then.
func (m move) all(l []api.Cell) []api.Cell {
	moved, _ := m(l)
	return moved
}

// one returns a cell that can be moved, where it is then.
func (m move) one(c api.Cell) api.Cell { return m.all([]api.Cell{c})[0] }

// moved returns a checked cast with its cells moved by place, and its axes by turn, which moves every vector where place moves any cell.
func (c Cast) moved(place, turn move) (Cast, api.Errno) {
	// If all cells together can be moved, so can each of the sets, and each landmark.
	if _, e := place(c.all()); e != api.OK {
		return Cast{}, e
	}
	c.Teeth = changed(c.Teeth, func(t Tooth) Tooth {
		t.Cells = place.all(t.Cells)
		t.Axis = turn.one(t.Axis)
		t.Marks = changed(t.Marks, func(m Mark) Mark {
			m.At = place.one(m.At)
			return m
		})
		return t
	})
	c.Gum = place.all(c.Gum)
	c.Base = place.all(c.Base)
	return c, api.OK
}

// Shifted returns a cast that is moved.
func Shifted(c Cast, by api.Cell) (Cast, api.Errno) {
	if e := CheckCast(c); e != api.OK {
		return Cast{}, e
	}
	return c.moved(
		func(l []api.Cell) ([]api.Cell, api.Errno) { return grid.Shift(l, by) },
		func(l []api.Cell) ([]api.Cell, api.Errno) { return l, api.OK },
	)
}

// Turned returns a cast that is turned about a cell.
func Turned(c Cast, n int, about api.Cell) (Cast, api.Errno) {
	if e := CheckCast(c); e != api.OK {
		return Cast{}, e
	}
	return c.moved(
		func(l []api.Cell) ([]api.Cell, api.Errno) { return grid.Turn(l, n, about) },
		func(l []api.Cell) ([]api.Cell, api.Errno) { return grid.Turn(l, n, api.Cell{}) },
	)
}

// Mirrored returns the mirror image of a cast.
func Mirrored(c Cast, axis, at int) (Cast, api.Errno) {
	if e := first(CheckCast(c), within(axis, axisX, axisZ, api.ErrKind)); e != api.OK {
		return Cast{}, e
	}
	return c.moved(
		func(l []api.Cell) ([]api.Cell, api.Errno) { return grid.Mirror(l, axis, at) },
		func(l []api.Cell) ([]api.Cell, api.Errno) { return grid.Mirror(l, axis, 0) },
	)
}

// Renamed returns a cast with another name of a tooth.
func Renamed(c Cast, from, to string) (Cast, api.Errno) {
	if e := CheckCast(c); e != api.OK {
		return Cast{}, e
	}
	tooth := find(c.Teeth, from)
	if tooth < 0 {
		return Cast{}, api.ErrUnknown
	}
	if e := checkName(to); e != api.OK {
		return Cast{}, e
	}
	if other := find(c.Teeth, to); other >= 0 && other != tooth {
		return Cast{}, api.ErrTwice
	}
	renamed := c.copied()
	renamed.Teeth[tooth].Name = to
	return renamed, api.OK
}
