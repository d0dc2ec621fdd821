package grid

import (
	"slices"

	"cusp/api"
)

// moved returns a set whose cells are moved one by one, to different cells, or ErrRange if one of these has an error.
func moved(l []api.Cell, move func(api.Cell) api.Cell) ([]api.Cell, api.Errno) {
	out := make([]api.Cell, len(l))
	for i, c := range l {
		out[i] = move(c)
	}
	if e := checkEach(out); e != api.OK {
		return nil, e
	}
	return sorted(out), api.OK
}

// Shift returns a set that is moved by a vector.
func Shift(l []api.Cell, by api.Cell) ([]api.Cell, api.Errno) {
	if e := first(CheckCells(l), checkVector(by, 2*api.MaxSize)); e != api.OK {
		return nil, e
	}
	return moved(l, func(c api.Cell) api.Cell {
		return api.Cell{X: c.X + by.X, Y: c.Y + by.Y, Z: c.Z + by.Z}
	})
}

// turn has for each coordinate of a result twice the number of the axis (0, 1 or 2) whose coordinate it is, and 1 more if that has its sign changed.
type turn [3]int

const lastTurn = 23

// isProper reports whether a turn has each axis once, and the determinant 1.
func (t turn) isProper() bool {
	a, b, c := t[0]/2, t[1]/2, t[2]/2
	if a == b || b == c || c == a {
		return false
	}
	signs := t[0] + t[1] + t[2]
	if b == (a+1)%3 {
		return signs%2 == 0
	}
	return signs%2 == 1
}

// turns returns all turns, in their lexicographic order.
func turns() [lastTurn + 1]turn {
	var all [lastTurn + 1]turn
	n := 0
	for code := range 6 * 6 * 6 {
		if t := (turn{code / 36, code / 6 % 6, code % 6}); t.isProper() {
			all[n] = t
			n++
		}
	}
	return all
}

// of returns the vector that a turn makes of another one.
func (t turn) of(vector [3]int) [3]int {
	var out [3]int
	for i, code := range t {
		out[i] = vector[code/2]
		if code%2 == 1 {
			out[i] = -out[i]
		}
	}
	return out
}

// after returns the turn that does first s, then t.
func (t turn) after(s turn) turn {
	var out turn
	for i, code := range t {
		// Two changes of a sign undo each other.
		out[i] = s[code/2] ^ code%2
	}
	return out
}

// Turn returns a set that is turned about a cell.
func Turn(l []api.Cell, n int, about api.Cell) ([]api.Cell, api.Errno) {
	if e := first(CheckCells(l), within(n, 0, lastTurn), checkCell(about)); e != api.OK {
		return nil, e
	}
	t := turns()[n]
	return moved(l, func(c api.Cell) api.Cell {
		v := t.of([3]int{c.X - about.X, c.Y - about.Y, c.Z - about.Z})
		return api.Cell{X: about.X + v[0], Y: about.Y + v[1], Z: about.Z + v[2]}
	})
}

// Twice returns the number of the turn that does first m, then n.
func Twice(m, n int) (int, api.Errno) {
	if e := first(within(m, 0, lastTurn), within(n, 0, lastTurn)); e != api.OK {
		return 0, e
	}
	all := turns()
	return slices.Index(all[:], all[n].after(all[m])), api.OK
}

// Mirror returns the mirror image of a set.
func Mirror(l []api.Cell, axis, at int) ([]api.Cell, api.Errno) {
	if e := first(CheckCells(l), within(axis, 0, 2), within(at, -api.MaxSize, api.MaxSize)); e != api.OK {
		return nil, e
	}
	return moved(l, func(c api.Cell) api.Cell {
		switch axis {
		case 0:
			c.X = 2*at - c.X
		case 1:
			c.Y = 2*at - c.Y
		case 2:
			c.Z = 2*at - c.Z
		}
		return c
	})
}
