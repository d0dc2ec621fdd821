package restore

import (
	"cusp/api"
	"cusp/grid"
)

// moved returns a plan all sets of which are moved, or the first error of these.
func (p Plan) moved(move func([]api.Cell) ([]api.Cell, api.Errno)) (Plan, api.Errno) {
	var errors [3]api.Errno
	p.Stump, errors[0] = move(p.Stump)
	p.Shape, errors[1] = move(p.Shape)
	p.Others, errors[2] = move(p.Others)
	return p, first(errors[:]...)
}

// checked returns a plan, or its error.
func (p Plan) checked() (Plan, api.Errno) {
	if e := CheckPlan(p); e != api.OK {
		return Plan{}, e
	}
	return p, api.OK
}

// Shifted returns a plan that is moved.
func Shifted(p Plan, by api.Cell) (Plan, api.Errno) {
	if e := first(CheckPlan(p), checkVector(by, 2*api.MaxSize)); e != api.OK {
		return Plan{}, e
	}
	q, e := p.moved(func(l []api.Cell) ([]api.Cell, api.Errno) { return grid.Shift(l, by) })
	if e != api.OK {
		return Plan{}, e
	}
	q.Margin += by.Z
	return q.checked()
}

// checkAxis returns the error of an axis that can be mirrored, or OK: the way goes upwards.
func checkAxis(axis int) api.Errno {
	if axis != 0 && axis != 1 {
		return api.ErrKind
	}
	return api.OK
}

// Mirrored returns the mirror image of a plan.
func Mirrored(p Plan, axis, at int) (Plan, api.Errno) {
	if e := first(CheckPlan(p), checkAxis(axis), checkCoordinate(at)); e != api.OK {
		return Plan{}, e
	}
	q, e := p.moved(func(l []api.Cell) ([]api.Cell, api.Errno) { return grid.Mirror(l, axis, at) })
	if e != api.OK {
		return Plan{}, e
	}
	if axis == 0 {
		q.Way.X = -p.Way.X
	} else {
		q.Way.Y = -p.Way.Y
	}
	return q.checked()
}
