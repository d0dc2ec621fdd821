package mill

import (
	"slices"

	"cusp/api"
	"cusp/grid"
)

// maxHeight is the greatest height of a layer: that of the whole grid.
const maxHeight = 2*api.MaxSize + 1

// cells returns the number of the cells of all parts.
func (n Nest) cells() int {
	all := 0
	for _, l := range n.Parts {
		all += len(l)
	}
	return all
}

// Filling returns how much of the blank the parts fill.
func Filling(n Nest) (api.Rat, api.Errno) {
	if e := n.check(); e != api.OK {
		return "", e
	}
	return grid.Of(n.cells(), volume(n.Blank))
}

// sprue returns the line from a cell in a direction to the wall of the blank, and whether no cell of it is taken.
func (n Nest) sprue(from api.Cell, dir int, taken map[api.Cell]bool) (Sprue, bool) {
	s := Sprue{From: from, Dir: dir}
	for c := plus(from, directions[dir]); isIn(n.Blank, c); c = plus(c, directions[dir]) {
		if taken[c] {
			return Sprue{}, false
		}
		s.Length++
	}
	return s, true
}

// sprues returns all sprues of a part that is put into the blank with others, by their cells, then by their directions.
func (n Nest) sprues(parts [][]api.Cell, part int) []Sprue {
	taken := map[api.Cell]bool{}
	for _, c := range slices.Concat(parts...) {
		taken[c] = true
	}
	var l []Sprue
	for _, c := range parts[part] {
		for dir := 1; dir < len(directions); dir++ {
			if s, isFree := n.sprue(c, dir, taken); isFree {
				l = append(l, s)
			}
		}
	}
	return l
}

// Short returns the shortest sprue of a part that is nested.
func Short(n Nest, l []Place, part int) (Sprue, api.Errno) {
	parts, e := put(n, l)
	if e := first(e, when(part < 0 || part >= len(n.Parts), api.ErrUnknown)); e != api.OK {
		return Sprue{}, e
	}
	sprues := n.sprues(parts, part)
	if len(sprues) == 0 {
		return Sprue{}, api.ErrNone
	}
	// Of several least ones the first one is taken.
	return slices.MinFunc(sprues, func(s, t Sprue) int { return s.Length - t.Length }), api.OK
}

// checkHeights returns the first error of the heights of layers of a blank, or OK.
func checkHeights(b grid.Box, heights []int) api.Errno {
	if e := first(when(len(heights) == 0, api.ErrEmpty), when(len(heights) > MaxLayers, api.ErrMany)); e != api.OK {
		return e
	}
	all := 0
	for _, h := range heights {
		if e := within(h, 1, maxHeight); e != api.OK {
			return e
		}
		all += h
	}
	return when(all != b.High.Z-b.Low.Z+1, api.ErrShape)
}

// Layers returns how many cells of a set are in each layer of a blank.
func Layers(b grid.Box, heights []int, l []api.Cell) ([]int, api.Errno) {
	if e := first(checkBlank(b), checkHeights(b, heights), checkInside(l, b)); e != api.OK {
		return nil, e
	}
	tops := slices.Clone(heights)
	for i := range len(tops) - 1 {
		tops[i+1] += tops[i]
	}
	out := make([]int, len(tops))
	for _, c := range l {
		above, _ := slices.BinarySearch(tops, c.Z-b.Low.Z+1)
		out[above]++
	}
	return out, api.OK
}
