package restore

import (
	"slices"

	"cusp/api"
	"cusp/grid"
)

// fault is a kind of fault: its error, and whether there is one. What is asked is not looked for before.
type fault struct {
	e     api.Errno
	found func() bool
}

// firstFault returns the error of the first fault that is found, or OK.
func firstFault(faults ...fault) api.Errno {
	for _, f := range faults {
		if f.found() {
			return f.e
		}
	}
	return api.OK
}

// isWhole reports whether a set is one part.
func isWhole(l []api.Cell) bool {
	parts, _ := grid.Parts(l)
	return len(parts) == 1
}

// isUndercut reports whether a part has a cell that is blocked.
func (p Plan) isUndercut(part []api.Cell) bool {
	blocked, _ := p.split(part)
	return len(blocked) > 0
}

// isWeak reports whether a part has a wall that is less than it has to be.
func (p Plan) isWeak(part []api.Cell) bool {
	hollow := p.hollow(part)
	return len(hollow) > 0 && len(p.thin(hollow)) > 0
}

// CheckPart returns the first fault of a part, or OK.
func CheckPart(p Plan, part []api.Cell) api.Errno {
	if e := first(checkWith(p, part), checkSome(part)); e != api.OK {
		return e
	}
	shape := setOf(p.Shape)
	return firstFault(
		fault{api.ErrShape, func() bool { return slices.ContainsFunc(part, func(c api.Cell) bool { return !shape[c] }) }},
		fault{api.ErrHit, func() bool { return haveCommon(part, p.Stump) || haveCommon(part, p.Others) }},
		fault{api.ErrGap, func() bool { return slices.ContainsFunc(part, p.isNear()) }},
		fault{api.ErrUndercut, func() bool { return p.isUndercut(part) }},
		fault{api.ErrGap, func() bool { return p.isWeak(part) }},
		fault{api.ErrOpen, func() bool { return !isWhole(part) }},
	)
}
