package mill

import (
	"slices"

	"cusp/api"
	"cusp/grid"
)

// floor is a number of each column of a blank, or of one beside it, where the centre of a tool may be.
type floor struct {
	feet    grid.Box
	numbers []int
}

// floor returns a floor that is everywhere the same.
func (v view) floor(n int) floor {
	wide := v.widened(v.blank)
	feet := grid.Box{Low: v.foot(wide.Low), High: v.foot(wide.High)}
	return floor{feet, slices.Repeat([]int{n}, volume(feet))}
}

// at returns the number of the column of a foot.
func (f floor) at(foot api.Cell) *int { return &f.numbers[index(f.feet, foot)] }

// step is a step across the direction from the axis of a tool, and the depth of the tool there.
type step struct {
	by    api.Cell
	depth int
}

// steps returns all steps within the radius of the tool.
func (v view) steps() []step {
	var l []step
	for by := range cellsOf(v.widened(grid.Box{})) {
		if square := product(by, by); square <= v.radius*v.radius {
			l = append(l, step{by, v.kind.depth(v.radius, square)})
		}
	}
	return l
}

// stands returns the least height of each column at which the tool may stand. It may stand above it, too: a tool that is lifted occupies nothing new.
func (v view) stands(part []api.Cell) floor {
	low, _ := v.ends()
	stands, steps := v.floor(low), v.steps()
	for _, c := range part {
		for _, s := range steps {
			n := stands.at(plus(v.foot(c), s.by))
			*n = max(*n, v.height(c)+s.depth+1)
		}
	}
	return stands
}

// bottoms returns the least height of each column of the blank from which on the tool takes its cells away.
func (v view) bottoms(part []api.Cell) floor {
	_, high := v.ends()
	stands, steps, bottoms := v.stands(part), v.steps(), v.floor(high+1)
	for foot := range cellsOf(grid.Box{Low: v.foot(v.blank.Low), High: v.foot(v.blank.High)}) {
		n := bottoms.at(foot)
		for _, s := range steps {
			if stand := *stands.at(plus(foot, s.by)); stand <= high {
				*n = min(*n, stand-s.depth)
			}
		}
	}
	return bottoms
}

// above returns the cells of a box that are not below a floor, ascending.
func (v view) above(f floor, b grid.Box) []api.Cell {
	var l []api.Cell
	for c := range cellsOf(b) {
		if v.height(c) >= *f.at(v.foot(c)) {
			l = append(l, c)
		}
	}
	return l
}

// Centres returns the centres at which a tool may stand.
func Centres(s Setup, o Op) ([]api.Cell, api.Errno) {
	if e := first(CheckSetup(s), o.check()); e != api.OK {
		return nil, e
	}
	v := viewOf(s.Blank, o)
	return v.above(v.stands(s.Part), v.widened(s.Blank)), api.OK
}

// reach returns the cells that an operation without errors takes away.
func (s Setup) reach(o Op) []api.Cell {
	v := viewOf(s.Blank, o)
	return v.above(v.bottoms(s.Part), s.Blank)
}

// Reach returns the cells that an operation takes away.
func Reach(s Setup, o Op) ([]api.Cell, api.Errno) {
	if e := first(CheckSetup(s), o.check()); e != api.OK {
		return nil, e
	}
	return s.reach(o), api.OK
}
