package cast

import (
	"cusp/api"
	"cusp/grid"
)

// Known is what scans together know of a box.
type Known struct {
	Solid []api.Cell
	Empty []api.Cell
	Open  []api.Cell
}

// checkScans returns the first error of scans, or OK.
func checkScans(l []Scan) api.Errno {
	if len(l) == 0 {
		return api.ErrEmpty
	}
	if len(l) > api.MaxScans {
		return api.ErrMany
	}
	for _, s := range l {
		if e := CheckScan(s); e != api.OK {
			return e
		}
		if s.Box != l[0].Box {
			return api.ErrShape
		}
	}
	return api.OK
}

// view is what at least one of several checked scans says of a box: a cell may be both, solid and empty.
type view struct {
	box   grid.Box
	solid set
	empty set
}

func viewOf(l []Scan) view {
	var seen, through [][]api.Cell
	for _, s := range l {
		solid, empty := s.results()
		seen = append(seen, solid)
		through = append(through, empty)
	}
	return view{l[0].Box, setOf(seen...), setOf(through...)}
}

// those returns the cells of the box that are as is says, ascending.
func (v view) those(is func(api.Cell) bool) []api.Cell {
	var l []api.Cell
	cells, _ := grid.Block(v.box)
	for _, c := range cells {
		if is(c) {
			l = append(l, c)
		}
	}
	return l
}

func (v view) isSolid(c api.Cell) bool { return v.solid[c] }

func (v view) isEmpty(c api.Cell) bool { return v.empty[c] }

func (v view) isOpen(c api.Cell) bool { return !v.solid[c] && !v.empty[c] }

func (v view) isConflict(c api.Cell) bool { return v.solid[c] && v.empty[c] }

// isUnseen reports whether a cell is open and has an empty neighbour.
func (v view) isUnseen(c api.Cell) bool {
	if !v.isOpen(c) {
		return false
	}
	for n := range neighbours(c) {
		if v.empty[n] {
			return true
		}
	}
	return false
}

// Conflicts returns the cells that are solid by a scan and empty by another one.
func Conflicts(l []Scan) ([]api.Cell, api.Errno) {
	if e := checkScans(l); e != api.OK {
		return nil, e
	}
	v := viewOf(l)
	return v.those(v.isConflict), api.OK
}

// Join returns what scans together know.
func Join(l []Scan) (Known, api.Errno) {
	if e := checkScans(l); e != api.OK {
		return Known{}, e
	}
	v := viewOf(l)
	if len(v.those(v.isConflict)) > 0 {
		return Known{}, api.ErrConflict
	}
	return Known{v.those(v.isSolid), v.those(v.isEmpty), v.those(v.isOpen)}, api.OK
}

// Unseen returns the open cells at which the surface may be.
func Unseen(l []Scan) ([]api.Cell, api.Errno) {
	if e := checkScans(l); e != api.OK {
		return nil, e
	}
	v := viewOf(l)
	return v.those(v.isUnseen), api.OK
}
