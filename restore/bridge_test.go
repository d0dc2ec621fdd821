package restore_test

import (
	"slices"
	"testing"

	"cusp/api"
	"cusp/restore"
)

func TestErrorsOfBridges(t *testing.T) {
	for _, s := range faultySets() {
		sections, e := restore.Sections(s.arg)
		refused(t, "Sections, "+s.what, sections, e, s.e)
		section, e := restore.Connector(s.arg, least, greatest)
		refused(t, "Connector, "+s.what, section, e, s.e)
		layers, e := restore.Layers(s.arg)
		refused(t, "Layers, "+s.what, layers, e, s.e)
		bridge, e := restore.Bridge([]restore.Plan{sample(), changed(func(p *restore.Plan) { p.Way = at(1, 0, 1) })}, s.arg)
		refused(t, "Bridge, between: "+s.what, bridge, e, s.e)
		bridge, e = restore.Bridge(nil, s.arg)
		refused(t, "Bridge of no plans, between: "+s.what, bridge, e, api.ErrEmpty)
	}
	for _, f := range faultyPlans() {
		bridge, e := restore.Bridge([]restore.Plan{sample(), f.arg, {}}, row(4097))
		refused(t, "Bridge, "+f.what, bridge, e, f.e)
	}
	bridge, e := restore.Bridge(make([]restore.Plan, 9), nil)
	refused(t, "too many plans", bridge, e, api.ErrMany)
	bridge, e = restore.Bridge(make([]restore.Plan, 8), nil)
	refused(t, "eight faulty plans", bridge, e, api.ErrEmpty)
	sections, e := restore.Sections(nil)
	refused(t, "no sections", sections, e, api.ErrEmpty)
	for _, n := range outOf(-1000, 1000) {
		section, e := restore.Connector(row(9), n, 0)
		refused(t, "from a number", section, e, api.ErrRange)
		section, e = restore.Connector(row(9), 0, n)
		refused(t, "to a number", section, e, api.ErrRange)
		section, e = restore.Connector(row(9), 1000, n)
		refused(t, "to a number in a wrong order", section, e, api.ErrRange)
		section, e = restore.Connector(nil, n, n)
		refused(t, "a connector of nothing", section, e, api.ErrEmpty)
	}
	section, e := restore.Connector(row(9), 1, 0)
	refused(t, "a wrong order", section, e, api.ErrOrder)
}

func TestBridgesOfTheChapter(t *testing.T) {
	p := sample()
	crown := without(p.Shape, p.Stump)
	same(t, "the sections", fine[[]restore.Section](t)(restore.Sections(crown)), []restore.Section{{X: -1, Cells: 9}, {X: 0, Cells: 7}, {X: 1, Cells: 9}})
	same(t, "the connector", fine[restore.Section](t)(restore.Connector(crown, -1, 1)), restore.Section{X: 0, Cells: 7})
	same(t, "the layers", fine[[]int](t)(restore.Layers(p.Shape)), []int{26, 1})
	same(t, "the bridge of one plan", fine[[]api.Cell](t)(restore.Bridge([]restore.Plan{p}, nil)), crown)
}

func TestSections(t *testing.T) {
	r := dice()
	for range 400 {
		part := randomSet(r, 30, at(-20, -2, -2), at(20, 2, 2))
		var wanted []restore.Section
		for x := part[0].X; x <= part[len(part)-1].X; x++ {
			wanted = append(wanted, restore.Section{X: x, Cells: len(where(part, func(c api.Cell) bool { return c.X == x }))})
		}
		same(t, "Sections", fine[[]restore.Section](t)(restore.Sections(part)), wanted)
		from := between(r, -25, 20)
		to := between(r, from, 25)
		// Each X gets its cells, of which the fewest at the least X win.
		best := restore.Section{X: from, Cells: 99}
		for x := from; x <= to; x++ {
			if n := len(where(part, func(c api.Cell) bool { return c.X == x })); n < best.Cells {
				best = restore.Section{X: x, Cells: n}
			}
		}
		same(t, "Connector", fine[restore.Section](t)(restore.Connector(part, from, to)), best)
	}
	same(t, "from border to border", len(fine[[]restore.Section](t)(restore.Sections([]api.Cell{at(-1000, 0, 0), at(1000, 0, 0)}))), 2001)
	same(t, "one cell", fine[[]restore.Section](t)(restore.Sections([]api.Cell{at(-1000, 5, 5)})), []restore.Section{{X: -1000, Cells: 1}})
}

func TestConnector(t *testing.T) {
	part := setOf(slices.Concat(block(at(0, 0, 0), at(2, 2, 2)), []api.Cell{at(3, 1, 1), at(4, 1, 1), at(6, 0, 0)}, block(at(7, 0, 0), at(7, 3, 3)))...)
	for _, c := range []struct {
		what     string
		from, to int
		wanted   restore.Section
	}{
		{"the first of two", 0, 4, restore.Section{X: 3, Cells: 1}},
		{"the only one", 2, 2, restore.Section{X: 2, Cells: 9}},
		{"the last one", 7, 7, restore.Section{X: 7, Cells: 16}},
		{"one without cells", 0, 7, restore.Section{X: 5}},
		{"before the part", -1000, 7, restore.Section{X: -1000}},
		{"behind the part", 6, 1000, restore.Section{X: 8}},
		{"all before the part", -9, -5, restore.Section{X: -9}},
		{"all behind the part", 1000, 1000, restore.Section{X: 1000}},
		{"the whole grid", -1000, 1000, restore.Section{X: -1000}},
	} {
		same(t, "Connector: "+c.what, fine[restore.Section](t)(restore.Connector(part, c.from, c.to)), c.wanted)
	}
}

func TestLayers(t *testing.T) {
	// The cells within n steps of a cell have it alone at the depth n + 1.
	ball := func(n int) []api.Cell {
		return where(block(at(-n, -n, -n), at(n, n, n)), func(c api.Cell) bool { return apart(c, at(0, 0, 0)) <= n })
	}
	same(t, "no cells", fine[[]int](t)(restore.Layers(nil)), nil)
	same(t, "one cell", fine[[]int](t)(restore.Layers([]api.Cell{at(1000, 1000, 1000)})), []int{1})
	same(t, "five layers", fine[[]int](t)(restore.Layers(ball(4))), []int{66, 38, 18, 6, 1})
	same(t, "as deep as a set can be", len(fine[[]int](t)(restore.Layers(ball(14)))), 15)
	same(t, "a block", fine[[]int](t)(restore.Layers(block(at(0, 0, 0), at(15, 15, 15)))), []int{1352, 1016, 728, 488, 296, 152, 56, 8})
	same(t, "cells beyond the border are in no part", fine[[]int](t)(restore.Layers(block(at(998, 998, 998), at(1000, 1000, 1000)))), []int{26, 1})
	same(t, "two parts", fine[[]int](t)(restore.Layers(slices.Concat(block(at(0, 0, 0), at(2, 2, 2)), block(at(9, 0, 0), at(11, 2, 2))))), []int{52, 2})
	r := dice()
	for range 120 {
		part := some(r, block(at(-4, -4, -4), at(4, 4, 4)), between(r, 60, 80), 80)
		around := without(block(at(-5, -5, -5), at(5, 5, 5)), part)
		wanted := make([]int, 9)
		for _, c := range part {
			wanted[nearest(c, around)-1]++
		}
		for len(wanted) > 0 && wanted[len(wanted)-1] == 0 {
			wanted = wanted[:len(wanted)-1]
		}
		before := slices.Clone(part)
		same(t, "Layers", fine[[]int](t)(restore.Layers(part)), wanted)
		same(t, "the part afterwards", part, before)
	}
}

func TestBridge(t *testing.T) {
	p := sample()
	crown := without(p.Shape, p.Stump)
	move := func(x, y, z int) restore.Plan { return fine[restore.Plan](t)(restore.Shifted(p, at(x, y, z))) }
	far := move(4, 0, 0)
	farCrown := without(far.Shape, far.Stump)
	tilted := func(way api.Cell) restore.Plan { return changed(func(p *restore.Plan) { p.Way = way }) }
	for _, c := range []struct {
		what    string
		plans   []restore.Plan
		between []api.Cell
		bridge  []api.Cell
		e       api.Errno
	}{
		{"two crowns and a cell", []restore.Plan{p, far}, []api.Cell{at(2, 0, 1)}, setOf(slices.Concat(crown, farCrown, []api.Cell{at(2, 0, 1)})...), api.OK},
		{"in another order", []restore.Plan{far, p}, []api.Cell{at(2, 0, 1)}, setOf(slices.Concat(crown, farCrown, []api.Cell{at(2, 0, 1)})...), api.OK},
		{"nothing between", []restore.Plan{p, far}, nil, nil, api.ErrOpen},
		{"a cell between that does not reach", []restore.Plan{p, far}, []api.Cell{at(2, 2, 1)}, nil, api.ErrOpen},
		{"the same plan twice", []restore.Plan{p, p}, nil, crown, api.OK},
		{"cells between that are in the shape", []restore.Plan{p}, crown, crown, api.OK},
		{"a cell between in the stump", []restore.Plan{p}, p.Stump, crown, api.OK},
		{"a cell between below the stump", []restore.Plan{p}, []api.Cell{at(0, 0, -1000)}, crown, api.OK},
		{"a cell between below another plan's stump", []restore.Plan{p, far}, []api.Cell{at(2, 0, 1), at(4, 0, -9)}, setOf(slices.Concat(crown, farCrown, []api.Cell{at(2, 0, 1)})...), api.OK},
		{"a cell between far away", []restore.Plan{p}, []api.Cell{at(1000, 0, 1000)}, nil, api.ErrOpen},
		{"a shape below another plan's stump", []restore.Plan{p, move(0, 0, 3)}, nil, setOf(without(slices.Concat(crown, move(0, 0, 3).Shape), []api.Cell{at(0, 0, 2), at(0, 0, 3), at(0, 0, 4)})...), api.OK},
		{"nothing left", []restore.Plan{changed(func(p *restore.Plan) { p.Gap = 8 })}, nil, nil, api.ErrOpen},
		{"two ways", []restore.Plan{p, tilted(at(0, 1, 1))}, nil, nil, api.ErrConflict},
		{"two ways in one direction", []restore.Plan{p, tilted(at(0, 0, 2))}, nil, nil, api.ErrConflict},
		{"the last of three ways", []restore.Plan{p, p, tilted(at(-1, 0, 1))}, nil, nil, api.ErrConflict},
		{"the gaps of all plans", []restore.Plan{p, changed(func(p *restore.Plan) { p.Gap = 1 })}, nil, without(p.Shape, where(p.Shape, func(c api.Cell) bool { return nearest(c, p.Stump) <= 1 })), api.OK},
		{"as many plans as there may be", many(8, p), nil, crown, api.OK},
	} {
		l, e := restore.Bridge(c.plans, c.between)
		if c.e != api.OK {
			refused(t, "Bridge: "+c.what, l, e, c.e)
			continue
		}
		same(t, "Bridge: "+c.what, e, api.OK)
		same(t, "Bridge: "+c.what, l, c.bridge)
	}
}

// TestLargeBridges: shapes may have more cells than a set, of which only those that stay count.
func TestLargeBridges(t *testing.T) {
	part := func(x int) restore.Plan {
		return restore.Plan{Stump: []api.Cell{at(-500, 0, 0)}, Shape: block(at(x, 0, 0), at(x+15, 15, 15)), Way: at(0, 0, 1)}
	}
	all := []restore.Plan{part(0), part(16)}
	l, e := restore.Bridge(all, nil)
	refused(t, "too many cells", l, e, api.ErrMany)
	// The second stump lies as a roof on the second shape.
	all[1].Stump = block(at(16, 0, 16), at(31, 15, 16))
	same(t, "the first shape alone", fine[[]api.Cell](t)(restore.Bridge(all, nil)), all[0].Shape)
	l, e = restore.Bridge(all, []api.Cell{at(0, 0, 16)})
	refused(t, "a cell too many", l, e, api.ErrMany)
	l, e = restore.Bridge(all, []api.Cell{at(999, 0, 16)})
	refused(t, "a cell too many elsewhere", l, e, api.ErrMany)
	same(t, "a cell too many that is blocked", fine[[]api.Cell](t)(restore.Bridge(all, []api.Cell{at(17, 9, -1000)})), all[0].Shape)
	for i := range 6 {
		all = append(all, part(32+i*16))
		all[i+2].Stump = block(at(32+i*16, 0, 15), at(47+i*16, 15, 16))
	}
	same(t, "eight shapes, all but one below stumps", fine[[]api.Cell](t)(restore.Bridge(all, nil)), all[0].Shape)
}

func TestBridges(t *testing.T) {
	r := dice()
	seen := map[api.Errno]int{}
	for range 600 {
		way := randomWay(r)
		var plans []restore.Plan
		var all []api.Cell
		for range between(r, 1, 3) {
			p := randomPlan(r)
			p.Way, p.Gap = way, min(p.Gap, r.IntN(2))
			p.Stump = p.Stump[:(len(p.Stump)+1)/2]
			plans = append(plans, p)
			all = append(all, p.Shape...)
		}
		between := block(at(-5, 1, 3), at(5, 1, 4))
		if r.IntN(4) == 0 {
			between = randomSet(r, 20, at(-5, -5, -5), at(5, 5, 5))
		}
		wanted := where(setOf(slices.Concat(all, between)...), func(c api.Cell) bool {
			return !slices.ContainsFunc(plans, func(p restore.Plan) bool { return comes(p, c) })
		})
		if len(plans) > 1 && r.IntN(8) == 0 {
			plans[len(plans)-1].Way.Z = way.Z%8 + 1
			l, e := restore.Bridge(plans, between)
			refused(t, "Bridge with two ways", l, e, api.ErrConflict)
			continue
		}
		l, e := restore.Bridge(plans, between)
		seen[e]++
		if !isOne(wanted) {
			refused(t, "Bridge", l, e, api.ErrOpen)
			continue
		}
		same(t, "Bridge", e, api.OK)
		same(t, "Bridge", l, wanted)
	}
	if seen[api.OK] < 100 || seen[api.ErrOpen] < 100 {
		t.Errorf("seen: %v", seen)
	}
}
