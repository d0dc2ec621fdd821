package restore_test

import (
	"slices"
	"testing"

	"cusp/api"
	"cusp/restore"
)

// ask is a function that is asked about a part of a plan.
type ask struct {
	what string
	call func(p restore.Plan, part []api.Cell) (any, api.Errno)
}

func asks() []ask {
	return []ask{
		{"Adapt", func(p restore.Plan, part []api.Cell) (any, api.Errno) { return untyped(restore.Adapt(p, part)) }},
		{"Touches", func(p restore.Plan, part []api.Cell) (any, api.Errno) { return untyped(restore.Touches(p, part)) }},
		{"Inner", func(p restore.Plan, part []api.Cell) (any, api.Errno) { return untyped(restore.Inner(p, part)) }},
		{"Wall", func(p restore.Plan, part []api.Cell) (any, api.Errno) { return untyped(restore.Wall(p, part)) }},
		{"Thin", func(p restore.Plan, part []api.Cell) (any, api.Errno) { return untyped(restore.Thin(p, part)) }},
		{"Fit", func(p restore.Plan, part []api.Cell) (any, api.Errno) { return untyped(restore.Fit(p, part)) }},
		{"CheckPart", func(p restore.Plan, part []api.Cell) (any, api.Errno) { return nil, restore.CheckPart(p, part) }},
	}
}

func untyped[T any](x T, e api.Errno) (any, api.Errno) { return x, e }

func TestErrorsOfParts(t *testing.T) {
	for _, a := range asks() {
		for _, f := range faultyPlans() {
			got, e := a.call(f.arg, row(4097))
			refused(t, a.what+", "+f.what, got, e, f.e)
		}
		for _, s := range faultySets() {
			// Others that are hit, and an inside without a cell above the margin, come behind.
			got, e := a.call(changed(func(p *restore.Plan) { p.Others, p.Margin = s.arg[:0], 1000 }), s.arg)
			refused(t, a.what+", the part: "+s.what, got, e, s.e)
		}
	}
}

func TestPartsOfTheChapter(t *testing.T) {
	p := sample()
	crown := without(p.Shape, p.Stump)
	same(t, "the inside", fine[[]api.Cell](t)(restore.Inner(p, crown)), p.Stump)
	same(t, "the wall", fine[int](t)(restore.Wall(p, crown)), 1)
	same(t, "nothing is thin", fine[[]api.Cell](t)(restore.Thin(p, crown)), nil)
	same(t, "the fit", fine[[2]int](t)(restore.Fit(p, crown)), [2]int{1, 1})
	same(t, "the crown", restore.CheckPart(p, crown), api.OK)
	same(t, "the whole shape", restore.CheckPart(p, p.Shape), api.ErrHit)
	p.Wall = 2
	same(t, "the crown with the wall 2", restore.CheckPart(p, crown), api.ErrGap)
	same(t, "where it is thin", fine[[]api.Cell](t)(restore.Thin(p, crown)), []api.Cell{
		at(-2, 0, 0), at(-2, 0, 1), at(0, -2, 0), at(0, -2, 1), at(0, 0, 3), at(0, 2, 0), at(0, 2, 1), at(2, 0, 0), at(2, 0, 1),
	})
	p.Wall, p.Others = 1, []api.Cell{at(1, 0, 2)}
	adapted := fine[[]api.Cell](t)(restore.Adapt(p, crown))
	same(t, "the crown that is adapted", adapted, without(crown, p.Others))
	same(t, "what touches", fine[[]api.Cell](t)(restore.Touches(p, adapted)), []api.Cell{at(0, 0, 2), at(1, -1, 2), at(1, 0, 1), at(1, 1, 2)})
	l, e := restore.Touches(p, crown)
	refused(t, "a hit", l, e, api.ErrHit)
}

func TestAdapt(t *testing.T) {
	r := dice()
	for range 500 {
		p := randomPlan(r)
		part := randomSet(r, 80, at(-4, -4, -4), at(4, 4, 4))
		before := slices.Clone(part)
		same(t, "Adapt", fine[[]api.Cell](t)(restore.Adapt(p, part)), without(part, p.Others))
		same(t, "Inner", fine[[]api.Cell](t)(restore.Inner(p, part)), without(p.Shape, part))
		same(t, "the part afterwards", part, before)
	}
	p := sample()
	same(t, "no part", fine[[]api.Cell](t)(restore.Adapt(p, nil)), nil)
	same(t, "the inside of no part", fine[[]api.Cell](t)(restore.Inner(p, nil)), p.Shape)
	same(t, "the inside of the whole shape", fine[[]api.Cell](t)(restore.Inner(p, p.Shape)), nil)
	elsewhere := []api.Cell{at(-1000, 0, 0), at(1000, 1000, 1000)}
	adapted := fine[[]api.Cell](t)(restore.Adapt(p, elsewhere))
	same(t, "a part elsewhere", adapted, elsewhere)
	adapted[0] = at(9, 9, 9)
	same(t, "the part elsewhere", elsewhere[0], at(-1000, 0, 0))
	inside := fine[[]api.Cell](t)(restore.Inner(p, elsewhere))
	same(t, "the inside of a part elsewhere", inside, p.Shape)
	inside[0] = at(9, 9, 9)
	same(t, "the shape", p.Shape, sample().Shape)
}

func TestTouches(t *testing.T) {
	r := dice()
	seen := map[string]int{}
	for range 600 {
		p := randomPlan(r)
		part := randomSet(r, 40, at(-4, -4, -4), at(4, 4, 4))
		if r.IntN(2) == 0 {
			part = without(part, p.Others)
		}
		l, e := restore.Touches(p, part)
		if len(common(part, p.Others)) > 0 {
			seen["hits"]++
			refused(t, "Touches with a hit", l, e, api.ErrHit)
			continue
		}
		wanted := where(part, func(c api.Cell) bool { return len(besides(c, p.Others)) > 0 })
		if len(wanted) > 0 {
			seen["touches"]++
		}
		same(t, "Touches", e, api.OK)
		same(t, "Touches", l, wanted)
	}
	if seen["hits"] < 50 || seen["touches"] < 100 {
		t.Errorf("seen: %v", seen)
	}
	border := changed(func(p *restore.Plan) { p.Others = []api.Cell{at(1000, 0, 0)} })
	same(t, "at the border", fine[[]api.Cell](t)(restore.Touches(border, []api.Cell{at(0, 0, 0), at(1000, 0, -1)})), []api.Cell{at(1000, 0, -1)})
	same(t, "no part", fine[[]api.Cell](t)(restore.Touches(border, nil)), nil)
}

// TestWall compares walls and thin places with the definition.
func TestWall(t *testing.T) {
	r := dice()
	seen := map[string]int{}
	for range 500 {
		p := randomPlan(r)
		part := some(r, p.Shape, between(r, 0, 8), 8)
		if r.IntN(4) == 0 {
			part = randomSet(r, 200, at(-4, -4, -5), at(4, 4, 5))
		}
		inside := insideOf(p, part)
		wall, e := restore.Wall(p, part)
		thin, f := restore.Thin(p, part)
		if len(inside) == 0 {
			seen["none"]++
			refused(t, "Wall without an inside", wall, e, api.ErrNone)
			refused(t, "Thin without an inside", thin, f, api.ErrNone)
			continue
		}
		wanted, all := []api.Cell{}, []int{}
		for _, c := range skinOf(p) {
			all = append(all, nearest(c, inside)-1)
			if all[len(all)-1] < p.Wall {
				wanted = append(wanted, c)
			}
		}
		seen["thin"] += min(len(wanted), 1)
		same(t, "Wall", e, api.OK)
		same(t, "Wall", wall, slices.Min(all))
		same(t, "Thin", f, api.OK)
		same(t, "Thin", thin, wanted)
		if t.Failed() {
			t.Fatalf("of %v of %+v", part, p)
		}
	}
	if seen["none"] < 30 || seen["thin"] < 100 {
		t.Errorf("seen: %v", seen)
	}
}

func TestWallAtMargins(t *testing.T) {
	p := sample()
	crown := without(p.Shape, p.Stump)
	for _, c := range []struct {
		what   string
		margin int
		part   []api.Cell
		wall   int
		thin   int
		e      api.Errno
	}{
		{"all of it", -1, crown, 1, 9, api.OK},
		{"the lowest inside is not above the margin", 0, crown, 1, 5, api.OK},
		{"no inside is above the margin", 1, crown, 0, 0, api.ErrNone},
		{"the skin below is not above the margin", -1, p.Shape[1:], 0, 6, api.OK},
		{"the skin below is above the margin", -2, p.Shape[1:], 0, 9, api.OK},
		{"no inside", -1, p.Shape, 0, 0, api.ErrNone},
		{"no part", -1000, nil, 0, 54, api.OK},
		{"only cells elsewhere", -1, []api.Cell{at(500, 0, 0)}, 0, 45, api.OK},
		{"above all", 1000, nil, 0, 0, api.ErrNone},
		{"the highest margin with an inside", 1, nil, 0, 21, api.OK},
		{"no margin below", 2, nil, 0, 0, api.ErrNone},
	} {
		q := changed(func(p *restore.Plan) { p.Margin, p.Wall = c.margin, 2 })
		wall, e := restore.Wall(q, c.part)
		thin, f := restore.Thin(q, c.part)
		if c.e != api.OK {
			refused(t, "Wall: "+c.what, wall, e, c.e)
			refused(t, "Thin: "+c.what, thin, f, c.e)
			continue
		}
		same(t, "Wall: "+c.what, e, api.OK)
		same(t, "Wall: "+c.what, wall, c.wall)
		same(t, "Thin: "+c.what, f, api.OK)
		same(t, "Thin: "+c.what, len(thin), c.thin)
	}
	// Walls go across what is empty, too: the inside is nearest to this skin through another part of the shape.
	p.Shape = []api.Cell{at(-500, 0, 0), at(0, 0, 0), at(0, 0, 999)}
	p.Stump = []api.Cell{at(1000, 1000, 1000)}
	same(t, "a wall far away", fine[int](t)(restore.Wall(p, []api.Cell{at(-500, 0, 0), at(0, 0, 0)})), 0)
	p.Wall = 8
	same(t, "scattered", len(fine[[]api.Cell](t)(restore.Thin(p, p.Shape[:2]))), 6)
	p.Wall = 0
	same(t, "nothing is thinner than no wall", fine[[]api.Cell](t)(restore.Thin(p, p.Shape[:2])), nil)
}

// TestLargestSkin: a skin, and what of it is thin, may have more cells than a set.
func TestLargestSkin(t *testing.T) {
	p := changed(func(p *restore.Plan) { p.Shape, p.Wall, p.Margin = nil, 8, -1000 })
	for i := range 4096 {
		p.Shape = append(p.Shape, at(i/256*3, i/16%16*3, i%16*3))
	}
	thin := fine[[]api.Cell](t)(restore.Thin(p, nil))
	same(t, "the number of thin places", len(thin), 6*4096)
	same(t, "in their order", slices.IsSortedFunc(thin, compare), true)
	same(t, "each one once", len(slices.Compact(thin)), 6*4096)
	same(t, "the wall", fine[int](t)(restore.Wall(p, nil)), 0)
	same(t, "CheckPart", restore.CheckPart(p, p.Shape[2:]), api.ErrGap)
	p.Shape = []api.Cell{at(-999, -999, -999), at(999, 999, 999)}
	same(t, "at the corners of the grid", fine[[]api.Cell](t)(restore.Thin(p, p.Shape[:1])), []api.Cell{
		at(998, 999, 999), at(999, 998, 999), at(999, 999, 998), at(999, 999, 1000), at(999, 1000, 999), at(1000, 999, 999),
	})
}

func TestFit(t *testing.T) {
	r := dice()
	seen := map[string]int{}
	for range 800 {
		p := randomPlan(r)
		part := some(r, p.Shape, between(r, 0, 16), 16)
		switch r.IntN(4) {
		case 0:
			part = randomSet(r, 100, at(-5, -5, -6), at(5, 5, 6))
		case 1:
			part = crownOf(p)
		}
		inside := without(p.Shape, part)
		var distances []int
		for _, c := range part {
			if len(besides(c, inside)) > 0 {
				distances = append(distances, nearest(c, p.Stump))
			}
		}
		got, e := restore.Fit(p, part)
		if len(distances) == 0 {
			seen["none"]++
			refused(t, "Fit without inner cells", got, e, api.ErrNone)
			continue
		}
		if slices.Max(distances) > slices.Min(distances) {
			seen["different"]++
		}
		same(t, "Fit", e, api.OK)
		same(t, "Fit", got, [2]int{slices.Min(distances), slices.Max(distances)})
	}
	if seen["none"] < 50 || seen["different"] < 200 {
		t.Errorf("seen: %v", seen)
	}
	far := restore.Plan{Stump: []api.Cell{at(-1000, -1000, -1000)}, Shape: []api.Cell{at(999, 999, 999)}, Way: at(0, 0, 1)}
	same(t, "the greatest distance", fine[[2]int](t)(restore.Fit(far, []api.Cell{at(-999, 0, 0), at(1000, 999, 999)})), [2]int{5998, 5998})
	same(t, "below the margin, too", fine[[2]int](t)(restore.Fit(changed(func(p *restore.Plan) { p.Margin = 1000 }), sample().Shape[9:])), [2]int{0, 2})
}

func TestCheckPart(t *testing.T) {
	crown := without(sample().Shape, sample().Stump)
	way := func(x, y, z int) func(*restore.Plan) { return func(p *restore.Plan) { p.Way = at(x, y, z) } }
	gap := func(n int) func(*restore.Plan) { return func(p *restore.Plan) { p.Gap = n } }
	wall := func(n int) func(*restore.Plan) { return func(p *restore.Plan) { p.Wall = n } }
	margin := func(n int) func(*restore.Plan) { return func(p *restore.Plan) { p.Margin = n } }
	others := func(l ...api.Cell) func(*restore.Plan) { return func(p *restore.Plan) { p.Others = l } }
	for _, c := range []struct {
		what string
		p    restore.Plan
		part []api.Cell
		e    api.Errno
	}{
		{"the crown", sample(), crown, api.OK},
		{"no part", sample(), nil, api.ErrEmpty},
		{"a cell of no shape", sample(), setOf(append(crown, at(0, 0, 3))...), api.ErrShape},
		{"a cell of no shape, and one of the stump", sample(), []api.Cell{at(0, 0, 0), at(0, 0, 3)}, api.ErrShape},
		{"a cell of no shape that is one of the stump", changed(func(p *restore.Plan) { p.Shape = crown }), []api.Cell{at(0, 0, 0)}, api.ErrShape},
		{"a cell of the stump", sample(), setOf(append(crown, at(0, 0, 0))...), api.ErrHit},
		{"a cell of the others", changed(others(at(-1, 0, 1))), crown, api.ErrHit},
		{"a cell of the others in the seat", changed(others(at(-1, 0, 1)), gap(1)), crown, api.ErrHit},
		{"others at another place", changed(others(at(-2, 0, 1))), crown, api.OK},
		{"a cell in the seat", changed(gap(1)), crown, api.ErrGap},
		{"one cell in the seat", changed(gap(2), wall(0)), []api.Cell{at(1, 1, 1)}, api.ErrGap},
		{"a cell in the seat, and one that is blocked", changed(gap(1), way(1, 0, 1)), crown, api.ErrGap},
		{"a cell that is blocked", changed(way(1, 0, 1)), crown, api.ErrUndercut},
		{"a cell that is blocked, without another one", changed(way(1, 0, 1)), crown[1:], api.ErrUndercut},
		{"the crown along a tilt", changed(way(1, 0, 1), margin(0)), without(crown, []api.Cell{at(-1, 0, 0)}), api.OK},
		{"a cell that is blocked, and a thin wall", changed(way(1, 0, 1), wall(8)), crown, api.ErrUndercut},
		{"a thin wall", changed(wall(2)), crown, api.ErrGap},
		{"a thin wall, and two parts", changed(wall(1)), []api.Cell{at(-1, 0, 0), at(1, 0, 0)}, api.ErrGap},
		{"no wall above the margin", changed(wall(8), margin(1)), crown, api.OK},
		{"no wall above the margin, and two parts", changed(wall(8), margin(2)), []api.Cell{at(-1, 0, 0), at(1, 0, 0)}, api.ErrOpen},
		{"two parts", changed(wall(0)), []api.Cell{at(-1, 0, 0), at(1, 0, 0)}, api.ErrOpen},
		{"two parts with a common edge", changed(wall(0)), []api.Cell{at(-1, 0, 0), at(0, 1, 0)}, api.ErrOpen},
		{"one cell", changed(wall(0)), []api.Cell{at(-1, 0, 0)}, api.OK},
		{"a wall of none", changed(wall(0)), crown[1:], api.OK},
		{"the wall at a cell that is left out", sample(), crown[1:], api.ErrGap},
	} {
		same(t, "CheckPart: "+c.what, restore.CheckPart(c.p, c.part), c.e)
	}
}

// faultOf returns the first fault of a part by the definitions.
func faultOf(p restore.Plan, part []api.Cell) api.Errno {
	inside, wall := insideOf(p, part), p.Wall
	if len(inside) > 0 {
		for _, c := range skinOf(p) {
			wall = min(wall, nearest(c, inside)-1)
		}
	}
	switch {
	case len(part) == 0:
		return api.ErrEmpty
	case len(without(part, p.Shape)) > 0:
		return api.ErrShape
	case len(common(part, slices.Concat(p.Stump, p.Others))) > 0:
		return api.ErrHit
	case slices.ContainsFunc(part, func(c api.Cell) bool { return nearest(c, p.Stump) <= p.Gap }):
		return api.ErrGap
	case slices.ContainsFunc(part, func(c api.Cell) bool { return comes(p, c) }):
		return api.ErrUndercut
	case wall < p.Wall:
		return api.ErrGap
	case !isOne(part):
		return api.ErrOpen
	}
	return api.OK
}

func TestFaults(t *testing.T) {
	r := dice()
	seen := map[api.Errno]int{}
	for range 1200 {
		p := randomPlan(r)
		p.Gap = min(p.Gap, between(r, 0, 3))
		p.Wall = between(r, 0, 1)
		part := crownOf(p)
		switch r.IntN(8) {
		case 0:
			part = some(r, part, 15, 16)
		case 1:
			part = some(r, p.Shape, 1, 2)
		case 2:
			part = some(r, where(p.Shape, func(c api.Cell) bool { return nearest(c, p.Stump) > p.Gap }), 7, 8)
		case 3:
			part = setOf(append(part, randomCell(r, at(-5, -5, -5), at(5, 5, 5)))...)
		}
		if r.IntN(3) > 0 {
			part = without(part, p.Others)
		}
		if r.IntN(32) == 0 {
			part = nil
		}
		wanted := faultOf(p, part)
		seen[wanted]++
		same(t, "CheckPart", restore.CheckPart(p, part), wanted)
	}
	for _, e := range []api.Errno{api.OK, api.ErrEmpty, api.ErrShape, api.ErrHit, api.ErrGap, api.ErrUndercut, api.ErrOpen} {
		if seen[e] < 20 {
			t.Errorf("error %d was seen only %d times", e, seen[e])
		}
	}
}
