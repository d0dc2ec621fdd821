package insert

import (
	"iter"
	"slices"

	"cusp/api"
	"cusp/exact"
)

// joined returns the walls of all groups, and behind them those of a limit.
func joined(steep int, groups ...[]api.Cell) []api.Cell {
	return append(slices.Concat(groups...),
		api.Cell{X: 1, Z: steep}, api.Cell{X: -1, Z: steep}, api.Cell{Y: 1, Z: steep}, api.Cell{Y: -1, Z: steep})
}

// isPermitted reports whether a wall permits a tilt. The tilt is not a corner: its numbers may have hundreds of digits.
func (t Tilt) isPermitted(wall api.Cell) bool {
	return exact.Sign(exact.Term{Factor: wall.X, Number: t.X}, exact.Term{Factor: wall.Y, Number: t.Y}, exact.Term{Factor: wall.Z, Number: "1"}) >= 0
}

// hindering visits the numbers of the walls that do not permit a tilt.
func hindering(walls []api.Cell, t Tilt) iter.Seq[int] {
	return func(yield func(int) bool) {
		for i, w := range walls {
			if !t.isPermitted(w) && !yield(i) {
				return
			}
		}
	}
}

// Permits reports whether all walls and the limit permit a tilt.
func Permits(walls []api.Cell, steep int, t Tilt) (bool, api.Errno) {
	if e := first(CheckWalls(walls), checkSteep(steep), checkTilt(t)); e != api.OK {
		return false, e
	}
	for range hindering(joined(steep, walls), t) {
		return false, api.OK
	}
	return true, api.OK
}

// Hinders returns the numbers of the walls that do not permit a tilt, those of the limit included.
func Hinders(walls []api.Cell, steep int, t Tilt) ([]int, api.Errno) {
	if e := first(CheckWalls(walls), checkSteep(steep), checkTilt(t)); e != api.OK {
		return nil, e
	}
	return slices.Collect(hindering(joined(steep, walls), t)), api.OK
}
