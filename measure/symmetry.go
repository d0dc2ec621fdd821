package measure

import (
	"math"

	"cusp/api"
	"cusp/grid"
)

// mirrored returns a cell that is mirrored at a plane.
func mirrored(c api.Cell, plane int) api.Cell {
	c.X = plane - c.X
	return c
}

// opposite returns the tooth of the other side.
func (a Arch) opposite(i int) Tooth { return a.Teeth[len(a.Teeth)-1-i] }

// skew returns the steps to each tooth from that of the other side, mirrored.
func (a Arch) skew(plane int) []int {
	skew := make([]int, len(a.Teeth))
	for i, t := range a.Teeth {
		skew[i] = steps(mirrored(a.opposite(i).Tip, plane), t.Tip)
	}
	return skew
}

// Midline returns the midline of an arch.
func Midline(a Arch) (api.Rat, api.Errno) {
	if e := first(CheckArch(a), a.checkSome()); e != api.OK {
		return "", e
	}
	half := len(a.Teeth) / 2
	if len(a.Teeth)%2 == 1 {
		return grid.Of(a.Teeth[half].Left.X+a.Teeth[half].Right.X, 2)
	}
	return grid.Of(a.Teeth[half-1].Right.X+a.Teeth[half].Left.X, 2)
}

// Skew returns how far the teeth are from those of the other side, mirrored.
func Skew(a Arch, plane int) ([]int, api.Errno) {
	if e := first(CheckArch(a), checkPlane(plane)); e != api.OK {
		return nil, e
	}
	return a.skew(plane), api.OK
}

// Plane returns the best plane of symmetry.
func Plane(a Arch) (int, api.Errno) {
	if e := first(CheckArch(a), a.checkSome()); e != api.OK {
		return 0, e
	}
	best, least := 0, math.MaxInt
	// Each number of the skew grows with the distance from the plane of its own pair of teeth. So the first plane with the least sum is that of a pair.
search:
	for i, t := range a.Teeth {
		plane := t.Tip.X + a.opposite(i).Tip.X
		sum := 0
		for _, n := range a.skew(plane) {
			sum += n
			if sum > least {
				continue search
			}
		}
		if sum < least || plane < best {
			best, least = plane, sum
		}
	}
	return best, api.OK
}

// Depth returns the depth of the curve of an arch.
func Depth(a Arch) (api.Rat, api.Errno) {
	if e := first(CheckArch(a), a.checkSome()); e != api.OK {
		return "", e
	}
	last := len(a.Teeth) - 1
	start := a.Teeth[0].Tip.Z
	rise := a.Teeth[last].Tip.Z - start
	// All heights are multiplied by the number of the last tooth: so they are integers.
	depth := 0
	for i, t := range a.Teeth {
		depth = max(depth, (start-t.Tip.Z)*last+rise*i)
	}
	return grid.Of(depth, max(last, 1))
}
