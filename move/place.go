package move

import (
	"cmp"
	"slices"
	"strconv"

	"cusp/api"
)

func plus(a, b api.Cell) api.Cell { return api.Cell{X: a.X + b.X, Y: a.Y + b.Y, Z: a.Z + b.Z} }

// minus returns the vector to a cell from another one.
func minus(to, from api.Cell) api.Cell {
	return api.Cell{X: to.X - from.X, Y: to.Y - from.Y, Z: to.Z - from.Z}
}

func size(n int) int { return max(n, -n) }

// steps returns the number of steps from a cell to another one.
func steps(from, to api.Cell) int {
	v := minus(to, from)
	return size(v.X) + size(v.Y) + size(v.Z)
}

func compareCells(a, b api.Cell) int {
	return cmp.Or(cmp.Compare(a.X, b.X), cmp.Compare(a.Y, b.Y), cmp.Compare(a.Z, b.Z))
}

// turned returns a cell that is turned about the cell 0 0 0.
func turned(c api.Cell, quarters int) api.Cell {
	for range quarters {
		c.X, c.Y = -c.Y, c.X
	}
	return c
}

// compare orders places by their shifts, then by their turns.
func (p Place) compare(q Place) int {
	return cmp.Or(compareCells(p.At, q.At), cmp.Compare(p.Turn, q.Turn))
}

// way returns the steps and the quarters from a place to another one.
func (p Place) way(to Place) (int, int) {
	turn := size(to.Turn - p.Turn)
	return steps(p.At, to.At), min(turn, 4-turn)
}

// towards returns the place to which a tooth comes that goes straight to another place by so many steps and quarters, or as many as there are.
func (p Place) towards(to Place, steps, quarters int) Place {
	// Each coordinate takes its steps from those that the ones before it have left.
	come := func(from, to int) int {
		n := max(-steps, min(steps, to-from))
		steps -= size(n)
		return from + n
	}
	var at api.Cell
	at.X = come(p.At.X, to.At.X)
	at.Y = come(p.At.Y, to.At.Y)
	at.Z = come(p.At.Z, to.At.Z)
	_, all := p.way(to)
	turn := min(quarters, all)
	if (to.Turn-p.Turn+4)%4 == 3 {
		turn = -turn
	}
	return Place{At: at, Turn: (p.Turn + turn + 4) % 4}
}

// mirrored returns the place of a mirrored tooth.
func (p Place) mirrored() Place {
	return Place{At: api.Cell{X: -p.At.X, Y: p.At.Y, Z: p.At.Z}, Turn: (4 - p.Turn) % 4}
}

// compareStates orders states of as many places, place by place.
func compareStates(s, t []Place) int { return slices.CompareFunc(s, t, Place.compare) }

// text returns a text that no other state has.
func text(s []Place) string {
	var t []byte
	for _, p := range s {
		for _, n := range [4]int{p.At.X, p.At.Y, p.At.Z, p.Turn} {
			t = append(strconv.AppendInt(t, int64(n), 10), ' ')
		}
	}
	return string(t)
}

// listOf returns the list of what is made from the elements of another one.
func listOf[T, U any](l []T, from func(T) U) []U {
	out := make([]U, len(l))
	for i, x := range l {
		out[i] = from(x)
	}
	return out
}
