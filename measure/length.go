package measure

import (
	"iter"
	"slices"

	"cusp/api"
	"cusp/grid"
)

func plus(c, by api.Cell) api.Cell { return api.Cell{X: c.X + by.X, Y: c.Y + by.Y, Z: c.Z + by.Z} }

// minus returns the vector to a cell from another one.
func minus(to, from api.Cell) api.Cell {
	return api.Cell{X: to.X - from.X, Y: to.Y - from.Y, Z: to.Z - from.Z}
}

// steps returns the number of steps between two cells.
func steps(a, b api.Cell) int {
	v := minus(a, b)
	return max(v.X, -v.X) + max(v.Y, -v.Y) + max(v.Z, -v.Z)
}

// distance returns the distance of two checked cells.
func distance(a, b api.Cell) api.Span {
	v := minus(a, b)
	square, _ := grid.Of(v.X*v.X+v.Y*v.Y+v.Z*v.Z, 1)
	root, _ := grid.Root(square)
	return root
}

// width returns the width of a tooth.
func (t Tooth) width() int { return steps(t.Left, t.Right) }

// length returns the distance of the ends of a tooth.
func (t Tooth) length() api.Span { return distance(t.Left, t.Right) }

// widths returns the sum of the widths of a range.
func (a Arch) widths(from, to int) int {
	sum := 0
	for t := range a.teeth(from, to) {
		sum += t.width()
	}
	return sum
}

// total adds up the lengths of elements.
func total[T any](elements iter.Seq[T], length func(T) api.Span) api.Span {
	sum := api.Span{Low: "0", High: "0"}
	for element := range elements {
		sum, _ = grid.Plus(sum, length(element))
	}
	return sum
}

// pairs visits each two neighbouring elements.
func pairs[T any](elements iter.Seq[T]) iter.Seq[[2]T] {
	return func(yield func([2]T) bool) {
		var pair [2]T
		hasBefore := false
		for element := range elements {
			pair = [2]T{pair[1], element}
			if hasBefore && !yield(pair) {
				return
			}
			hasBefore = true
		}
	}
}

// Width returns the width of a tooth in steps.
func Width(a Arch, tooth int) (int, api.Errno) {
	if e := first(CheckArch(a), a.checkTooth(tooth)); e != api.OK {
		return 0, e
	}
	return a.Teeth[tooth].width(), api.OK
}

// Distance returns the distance of two cells.
func Distance(a, b api.Cell) (api.Span, api.Errno) {
	if e := first(checkCell(a), checkCell(b)); e != api.OK {
		return api.Span{}, e
	}
	return distance(a, b), api.OK
}

// Need returns the sum of the distances of the ends of teeth.
func Need(a Arch, from, to int) (api.Span, api.Errno) {
	if e := first(CheckArch(a), a.checkRange(from, to)); e != api.OK {
		return api.Span{}, e
	}
	return total(a.teeth(from, to), Tooth.length), api.OK
}

// Room returns the length of a line.
func Room(line []api.Cell) (api.Span, api.Errno) {
	if e := checkLine(line); e != api.OK {
		return api.Span{}, e
	}
	return total(pairs(slices.Values(line)), func(p [2]api.Cell) api.Span { return distance(p[0], p[1]) }), api.OK
}

// Crowding returns the need of teeth less the room of a line.
func Crowding(a Arch, from, to int, line []api.Cell) (api.Span, api.Errno) {
	need, errorOfNeed := Need(a, from, to)
	room, errorOfRoom := Room(line)
	if e := first(errorOfNeed, errorOfRoom); e != api.OK {
		return api.Span{}, e
	}
	return grid.Minus(need, room)
}

// Irregular returns the sum of the distances between neighbouring teeth.
func Irregular(a Arch, from, to int) (api.Span, api.Errno) {
	if e := first(CheckArch(a), a.checkRange(from, to)); e != api.OK {
		return api.Span{}, e
	}
	return total(pairs(a.teeth(from, to)), func(p [2]Tooth) api.Span { return distance(p[0].Right, p[1].Left) }), api.OK
}

// Ratio returns the quotient of the widths of two arches.
func Ratio(a, b Arch, from, to int) (api.Rat, api.Errno) {
	if e := first(CheckArch(a), CheckArch(b), a.checkRange(from, to), b.checkRange(from, to)); e != api.OK {
		return "", e
	}
	return grid.Of(a.widths(from, to), b.widths(from, to))
}
