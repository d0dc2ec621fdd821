package restore_test

import (
	"testing"

	"cusp/api"
	"cusp/grid"
	"cusp/insert"
	"cusp/restore"
)

// TestCrownsGoOut: a crown keeps the gap everywhere, and goes out along its way without coming nearer to the stump.
func TestCrownsGoOut(t *testing.T) {
	r := dice()
	seen := 0
	for range 400 {
		p := randomPlan(r)
		crown := fine[[]api.Cell](t)(restore.Crown(p))
		tooNear := fine[[]api.Cell](t)(grid.Grow(p.Stump, p.Gap))
		same(t, "what is too near", fine[[]api.Cell](t)(grid.Cut(crown, tooNear)), nil)
		if len(crown) == 0 {
			continue
		}
		seen++
		same(t, "the gap", fine[int](t)(grid.Apart(crown, p.Stump)) > p.Gap, true)
		_, _, e := insert.Stuck(crown, tooNear, p.Way)
		same(t, "it goes out", e, api.ErrNone)
		// What is left out of the crown, each cell of it, would come too near.
		for _, c := range fine[[]api.Cell](t)(restore.Blocked(p)) {
			_, _, e := insert.Stuck([]api.Cell{c}, tooNear, p.Way)
			same(t, "what is blocked", e, api.OK)
		}
	}
	if seen < 200 {
		t.Errorf("only %d crowns have cells", seen)
	}
}

// TestGreatestCrown: each part that keeps the gap and goes out is in the crown, and what is in the crown does so.
func TestGreatestCrown(t *testing.T) {
	r := dice()
	seen := map[bool]int{}
	for range 2000 {
		p := randomPlan(r)
		crown := fine[[]api.Cell](t)(restore.Crown(p))
		part := some(r, p.Shape, 1, 1<<r.IntN(8))
		tooNear := fine[[]api.Cell](t)(grid.Grow(p.Stump, p.Gap))
		_, _, e := insert.Stuck(part, tooNear, p.Way)
		isIn := len(fine[[]api.Cell](t)(grid.Less(part, crown))) == 0
		same(t, "a part that goes out is in the crown", e == api.ErrNone, isIn)
		if len(part) > 0 {
			seen[isIn]++
		}
		accepted := restore.CheckPart(p, part)
		if accepted == api.OK {
			same(t, "an accepted part is in the crown", isIn, true)
		}
	}
	if seen[true] < 200 || seen[false] < 200 {
		t.Errorf("seen: %v", seen)
	}
}

// TestGreaterGaps: with a greater gap a crown has no more cells, the seat no fewer.
func TestGreaterGaps(t *testing.T) {
	r := dice()
	for range 100 {
		p := randomPlan(r)
		for p.Gap = 0; p.Gap < restore.MaxGap; {
			crown, seat := fine[[]api.Cell](t)(restore.Crown(p)), fine[[]api.Cell](t)(restore.Seat(p))
			p.Gap++
			same(t, "more cells", fine[[]api.Cell](t)(grid.Less(fine[[]api.Cell](t)(restore.Crown(p)), crown)), nil)
			same(t, "a smaller seat", fine[[]api.Cell](t)(grid.Less(seat, fine[[]api.Cell](t)(restore.Seat(p)))), nil)
		}
	}
}

// TestCrownsArePutTogether: crown and blocked cells are the shape, the seat is blocked, and the inside of a crown is what is blocked.
func TestCrownsArePutTogether(t *testing.T) {
	r := dice()
	for range 300 {
		p := randomPlan(r)
		crown, blocked := fine[[]api.Cell](t)(restore.Crown(p)), fine[[]api.Cell](t)(restore.Blocked(p))
		same(t, "the shape", fine[[]api.Cell](t)(grid.Union(crown, blocked)), p.Shape)
		same(t, "what both have", fine[[]api.Cell](t)(grid.Cut(crown, blocked)), nil)
		same(t, "the inside", fine[[]api.Cell](t)(restore.Inner(p, crown)), blocked)
		same(t, "what is not blocked of the seat", fine[[]api.Cell](t)(grid.Less(fine[[]api.Cell](t)(restore.Seat(p)), blocked)), nil)
	}
}

// TestAdaptedParts: a part that is adapted hits no other cells, and a part that hits none stays as it is.
func TestAdaptedParts(t *testing.T) {
	r := dice()
	for range 300 {
		p := randomPlan(r)
		adapted := fine[[]api.Cell](t)(restore.Adapt(p, fine[[]api.Cell](t)(restore.Crown(p))))
		same(t, "hits", fine[[]api.Cell](t)(grid.Cut(adapted, p.Others)), nil)
		touches := fine[[]api.Cell](t)(restore.Touches(p, adapted))
		same(t, "what touches is of the part", fine[[]api.Cell](t)(grid.Less(touches, adapted)), nil)
		same(t, "adapted again", fine[[]api.Cell](t)(restore.Adapt(p, adapted)), adapted)
		if e := restore.CheckPart(p, adapted); e == api.ErrHit || e == api.ErrUndercut || e == api.ErrShape {
			t.Errorf("an adapted crown has the error %d", e)
		}
	}
}

// TestThinAndWall: where no cell of the skin is thin the wall is kept, and only there.
func TestThinAndWall(t *testing.T) {
	r := dice()
	seen := map[bool]int{}
	for range 400 {
		p := randomPlan(r)
		part := fine[[]api.Cell](t)(restore.Crown(p))
		thin, e := restore.Thin(p, part)
		wall, errorOfWall := restore.Wall(p, part)
		same(t, "the errors of both", e, errorOfWall)
		if e != api.OK {
			continue
		}
		seen[len(thin) == 0]++
		same(t, "a wall that is kept", wall >= p.Wall, len(thin) == 0)
		p.Others = nil
		if len(part) > 0 && len(thin) > 0 {
			same(t, "CheckPart of a thin wall", restore.CheckPart(p, part), api.ErrGap)
		}
		p.Wall = min(wall, restore.MaxWall)
		same(t, "nothing is thinner than the wall", fine[[]api.Cell](t)(restore.Thin(p, part)), nil)
		if wall < restore.MaxWall {
			p.Wall = wall + 1
			same(t, "something is as thin as the wall", len(fine[[]api.Cell](t)(restore.Thin(p, part))) > 0, true)
		}
	}
	if seen[true] < 50 || seen[false] < 50 {
		t.Errorf("seen: %v", seen)
	}
}

// TestAllCells: the sections and the layers have all cells.
func TestAllCells(t *testing.T) {
	r := dice()
	for range 300 {
		part := randomSet(r, 200, at(-4, -4, -4), at(4, 4, 4))
		all := 0
		for _, s := range fine[[]restore.Section](t)(restore.Sections(part)) {
			all += s.Cells
		}
		same(t, "the cells of sections", all, len(part))
		for i, n := range fine[[]int](t)(restore.Layers(part)) {
			all -= n
			same(t, "the cells that are deeper", all, len(fine[[]api.Cell](t)(grid.Shrink(part, i+1))))
		}
		same(t, "the cells of no layer", all, 0)
	}
}

// TestBridgeOfOne: the bridge of one plan, without cells between, is its crown, if this is one part.
func TestBridgeOfOne(t *testing.T) {
	r := dice()
	seen := map[bool]int{}
	for range 500 {
		p := randomPlan(r)
		crown := fine[[]api.Cell](t)(restore.Crown(p))
		bridge, e := restore.Bridge([]restore.Plan{p}, nil)
		isOne := len(fine[[][]api.Cell](t)(grid.Parts(crown))) == 1
		seen[isOne]++
		if !isOne {
			refused(t, "Bridge", bridge, e, api.ErrOpen)
			continue
		}
		same(t, "Bridge", e, api.OK)
		same(t, "Bridge", bridge, crown)
	}
	if seen[true] < 50 || seen[false] < 50 {
		t.Errorf("seen: %v", seen)
	}
}

// TestMovedPlans: what is told of a plan that is moved is what is told of the plan, moved.
func TestMovedPlans(t *testing.T) {
	r := dice()
	for range 200 {
		p, by := randomPlan(r), randomCell(r, at(-30, -30, -30), at(30, 30, 30))
		q := fine[restore.Plan](t)(restore.Shifted(p, by))
		crown := fine[[]api.Cell](t)(restore.Crown(p))
		moved := fine[[]api.Cell](t)(grid.Shift(crown, by))
		same(t, "the crown", fine[[]api.Cell](t)(restore.Crown(q)), moved)
		same(t, "CheckPart", restore.CheckPart(q, moved), restore.CheckPart(p, crown))
		wall, e := restore.Wall(p, crown)
		movedWall, movedError := restore.Wall(q, moved)
		same(t, "the wall", movedWall, wall)
		same(t, "the error of the wall", movedError, e)
		// Only a way without broken steps goes to both sides in the same manner.
		axis, plane := r.IntN(2), between(r, -30, 30)
		p.Way.X, p.Way.Y = between(r, -1, 1)*p.Way.Z, between(r, -1, 1)*p.Way.Z
		crown = fine[[]api.Cell](t)(restore.Crown(p))
		mirrored := fine[restore.Plan](t)(restore.Mirrored(p, axis, plane))
		same(t, "the crown of the mirror image", fine[[]api.Cell](t)(restore.Crown(mirrored)), fine[[]api.Cell](t)(grid.Mirror(crown, axis, plane)))
	}
}
