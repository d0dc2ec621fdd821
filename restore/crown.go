package restore

import (
	"math"
	"slices"

	"cusp/api"
	"cusp/insert"
)

// zone is where some cells must not come on their way: what is within the gap of a stump, as far as it is on the lines along the way on which they come.
// After as many steps as the way has Z it goes on in the same manner, so it is enough to know the steps before, and how far up the zone goes on each line.
type zone struct {
	way   api.Cell
	steps []api.Cell
	tops  map[api.Cell]int
}

// ends returns the vectors from a stump to the cells within the gap that are the last ones on their lines along the way.
func (p Plan) ends() []api.Cell {
	isIn := func(v api.Cell) bool { return steps(v) <= p.Gap }
	var l []api.Cell
	for x := -p.Gap; x <= p.Gap; x++ {
		for y := -p.Gap; y <= p.Gap; y++ {
			for z := -p.Gap; z <= p.Gap; z++ {
				if v := (api.Cell{X: x, Y: y, Z: z}); isIn(v) && !isIn(plus(v, p.Way)) {
					l = append(l, v)
				}
			}
		}
	}
	return l
}

// zoneFor returns the zone of a plan for some cells.
func (p Plan) zoneFor(l []api.Cell) zone {
	z := zone{way: p.Way, tops: map[api.Cell]int{}}
	for k := range p.Way.Z {
		// Only the first steps are asked for: package insert refuses as many as there may be from the lowest cell to the zone of the highest stump.
		step, _ := insert.Way(p.Way, k)
		z.steps = append(z.steps, step)
	}
	for _, c := range l {
		for _, step := range z.steps {
			foot, _ := z.foot(plus(c, step))
			z.tops[foot] = math.MinInt
		}
	}
	ends := p.ends()
	for _, c := range p.Stump {
		for _, v := range ends {
			z.reach(plus(c, v))
		}
	}
	return z
}

// foot returns the cell of a line along the way that stands for the line, and how many ways above it a cell of the line is.
func (z zone) foot(c api.Cell) (api.Cell, int) {
	height := c.Z / z.way.Z
	if c.Z%z.way.Z < 0 {
		height--
	}
	return minus(c, times(height, z.way)), height
}

// reach makes the zone go up to a cell at least, if cells come on the line of it.
func (z zone) reach(c api.Cell) {
	foot, height := z.foot(c)
	if top, known := z.tops[foot]; known && top < height {
		z.tops[foot] = height
	}
}

// isBelow reports whether a cell is in the zone, or comes into it by whole ways.
func (z zone) isBelow(c api.Cell) bool {
	foot, height := z.foot(c)
	return height <= z.tops[foot]
}

// split returns the cells that come within the gap of the stump on their way, and those that do not.
func (p Plan) split(l []api.Cell) (blocked, free []api.Cell) {
	z := p.zoneFor(l)
cells:
	for _, c := range l {
		for _, step := range z.steps {
			if z.isBelow(plus(c, step)) {
				blocked = append(blocked, c)
				continue cells
			}
		}
		free = append(free, c)
	}
	return blocked, free
}

// isNear returns a function that reports whether a cell is within the gap of the stump.
func (p Plan) isNear() func(api.Cell) bool {
	far := body(p.Stump).distance
	return func(c api.Cell) bool { return far(c) <= p.Gap }
}

// Seat returns the cells that are within the gap of the stump.
func Seat(p Plan) ([]api.Cell, api.Errno) {
	if e := CheckPlan(p); e != api.OK {
		return nil, e
	}
	return slices.Collect(where(p.Shape, p.isNear())), api.OK
}

// Blocked returns the cells of the shape that come into the seat when they go out.
func Blocked(p Plan) ([]api.Cell, api.Errno) {
	if e := CheckPlan(p); e != api.OK {
		return nil, e
	}
	blocked, _ := p.split(p.Shape)
	return blocked, api.OK
}

// Crown returns the crown of a plan.
func Crown(p Plan) ([]api.Cell, api.Errno) {
	if e := CheckPlan(p); e != api.OK {
		return nil, e
	}
	_, free := p.split(p.Shape)
	return free, api.OK
}
