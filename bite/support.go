package bite

import (
	"cmp"
	"slices"

	"cusp/api"
)

// Sides returns how many contacts are on the left and on the right of a plane.
func Sides(b Bite, position, middle int) ([2]int, api.Errno) {
	if e := first(checkAt(b, position), checkNumber(middle)); e != api.OK {
		return [2]int{}, e
	}
	contacts, e := b.contacts(position)
	if e != api.OK {
		return [2]int{}, e
	}
	var sides [2]int
	for _, c := range contacts {
		if c.X < middle {
			sides[0]++
		}
		if c.X > middle {
			sides[1]++
		}
	}
	return sides, api.OK
}

// line goes from one point (X and Y) to another one.
type line struct {
	from, to [2]int
}

// side returns 1, 0 or -1 for a point on the left of a line, on it, or on the right.
func (l line) side(at [2]int) int {
	return cmp.Compare((l.to[0]-l.from[0])*(at[1]-l.from[1]), (l.to[1]-l.from[1])*(at[0]-l.from[0]))
}

func (l line) hasLeft(at [2]int) bool { return l.side(at) > 0 }

func (l line) hasRight(at [2]int) bool { return l.side(at) < 0 }

// chain returns the corners on one side of ascending points, from the first point to the last one: each edge has the next corner on its inner side.
func chain(points [][2]int, hasInside func(line, [2]int) bool) [][2]int {
	var corners [][2]int
	for _, p := range points {
		n := len(corners)
		for n >= 2 && !hasInside(line{corners[n-2], corners[n-1]}, p) {
			n--
		}
		corners = append(corners[:n], p)
	}
	return corners
}

// polygon returns the corners of the convex polygon of ascending points, as one goes round with it on the left side.
func polygon(points [][2]int) [][2]int {
	if len(points) < 2 {
		return points
	}
	below := chain(points, line.hasLeft)
	above := reversed(chain(points, line.hasRight))
	// Both have the first and the last point.
	return slices.Concat(below, above[1:len(above)-1])
}

// support returns the support of a position, ErrHit if there are hits, or ErrNone if there are no contacts.
func (b Bite) support(position int) ([][2]int, api.Errno) {
	contacts, e := b.contacts(position)
	if e != api.OK {
		return nil, e
	}
	if len(contacts) == 0 {
		return nil, api.ErrNone
	}
	points := make([][2]int, len(contacts))
	for i, c := range contacts {
		points[i] = columnOf(c)
	}
	return polygon(slices.Compact(points)), api.OK
}

// Support returns the corners of the polygon of all contacts of a position.
func Support(b Bite, position int) ([][2]int, api.Errno) {
	if e := checkAt(b, position); e != api.OK {
		return nil, e
	}
	return b.support(position)
}

// isAround reports whether the least rectangle of some points has a further one, too.
func isAround(points [][2]int, at [2]int) bool {
	for i, n := range at {
		low, high := points[0][i], points[0][i]
		for _, p := range points {
			low, high = min(low, p[i]), max(high, p[i])
		}
		if n < low || n > high {
			return false
		}
	}
	return true
}

// holds returns 1, 0 or -1 for a point inside, on the border, or outside of a polygon.
func holds(corners [][2]int, at [2]int) int {
	// The edges of one or two corners do not tell where they end.
	if !isAround(corners, at) {
		return -1
	}
	least := 1
	for i, to := range corners {
		from := corners[(i+len(corners)-1)%len(corners)]
		least = min(least, line{from, to}.side(at))
	}
	return least
}

// Holds returns 1, 0 or -1 for a point inside, on the border, or outside of the polygon of a position.
func Holds(b Bite, position int, at [2]int) (int, api.Errno) {
	if e := first(checkAt(b, position), checkNumber(at[0]), checkNumber(at[1])); e != api.OK {
		return 0, e
	}
	corners, e := b.support(position)
	if e != api.OK {
		return 0, e
	}
	return holds(corners, at), api.OK
}
