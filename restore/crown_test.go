package restore_test

import (
	"slices"
	"testing"

	"cusp/api"
	"cusp/restore"
)

func TestCheckPlan(t *testing.T) {
	for _, f := range faultyPlans() {
		same(t, "CheckPlan, "+f.what, restore.CheckPlan(f.arg), f.e)
	}
	for _, p := range []restore.Plan{
		sample(),
		changed(func(p *restore.Plan) { p.Gap, p.Wall, p.Margin, p.Way = 8, 8, 1000, at(8, -8, 8) }),
		changed(func(p *restore.Plan) { p.Gap, p.Wall, p.Margin, p.Way = 0, 0, -1000, at(-8, 8, 1) }),
		changed(func(p *restore.Plan) { p.Shape = []api.Cell{at(-999, -999, -999), at(999, 999, 999)} }),
		changed(func(p *restore.Plan) { p.Stump = []api.Cell{at(-1000, -1000, -1000), at(1000, 1000, 1000)} }),
		changed(func(p *restore.Plan) { p.Others = []api.Cell{at(-1000, -1000, -1000), at(1000, 1000, 1000)} }),
		changed(func(p *restore.Plan) { p.Stump, p.Shape, p.Others = row(4096), row(4096), row(4096) }, func(p *restore.Plan) { p.Shape = block(at(0, 0, 0), at(15, 15, 15)) }),
	} {
		same(t, "CheckPlan", restore.CheckPlan(p), api.OK)
	}
}

func TestErrorsOfCrowns(t *testing.T) {
	for _, f := range faultyPlans() {
		l, e := restore.Seat(f.arg)
		refused(t, "Seat, "+f.what, l, e, f.e)
		l, e = restore.Blocked(f.arg)
		refused(t, "Blocked, "+f.what, l, e, f.e)
		l, e = restore.Crown(f.arg)
		refused(t, "Crown, "+f.what, l, e, f.e)
		p, e := restore.Shifted(f.arg, at(0, 0, greatest))
		refused(t, "Shifted, "+f.what, p, e, f.e)
		p, e = restore.Mirrored(f.arg, 2, least)
		refused(t, "Mirrored, "+f.what, p, e, f.e)
	}
}

func TestCrownOfTheChapter(t *testing.T) {
	p := sample()
	same(t, "the seat", fine[[]api.Cell](t)(restore.Seat(p)), p.Stump)
	same(t, "what is blocked", fine[[]api.Cell](t)(restore.Blocked(p)), p.Stump)
	same(t, "the crown", fine[[]api.Cell](t)(restore.Crown(p)), without(p.Shape, p.Stump))
	p.Gap = 1
	same(t, "the seat with a gap", len(fine[[]api.Cell](t)(restore.Seat(p))), 11)
	same(t, "the crown with a gap", len(fine[[]api.Cell](t)(restore.Crown(p))), 16)
	p.Gap, p.Way = 0, at(1, 0, 1)
	same(t, "the seat along a tilt", fine[[]api.Cell](t)(restore.Seat(p)), p.Stump)
	same(t, "what is blocked along a tilt", fine[[]api.Cell](t)(restore.Blocked(p)), []api.Cell{at(-1, 0, 0), at(0, 0, 0), at(0, 0, 1)})
	same(t, "the crown along a tilt", len(fine[[]api.Cell](t)(restore.Crown(p))), 24)
}

func TestBlocked(t *testing.T) {
	for _, c := range []struct {
		what         string
		stump, shape api.Cell
		gap          int
		way          api.Cell
		blocked      bool
	}{
		{"right below", at(0, 0, 9), at(0, 0, 0), 0, at(0, 0, 1), true},
		{"right above", at(0, 0, 0), at(0, 0, 1), 0, at(0, 0, 1), false},
		{"as far above as the gap", at(0, 0, 0), at(0, 0, 8), 8, at(0, 0, 1), true},
		{"further above than the gap", at(0, 0, 0), at(0, 0, 9), 8, at(0, 0, 1), false},
		{"as far beside as the gap", at(0, 0, 9), at(3, -5, 0), 8, at(0, 0, 1), true},
		{"further beside than the gap", at(0, 0, 9), at(4, -5, 0), 8, at(0, 0, 1), false},
		{"a step to the left at once", at(-1, 0, 1), at(0, 0, 0), 0, at(-1, 0, 8), true},
		{"no step to the right at once", at(1, 0, 1), at(0, 0, 0), 0, at(1, 0, 8), false},
		{"a step to the right after eight", at(1, 0, 8), at(0, 0, 0), 0, at(1, 0, 8), true},
		{"steps that skip the stump", at(4, 0, 1), at(0, 0, 0), 0, at(8, 0, 1), false},
		{"steps that skip the stump, but not the gap", at(4, 0, 1), at(0, 0, 0), 4, at(8, 0, 1), true},
		{"many ways below", at(-700, 700, 800), at(0, 0, 0), 0, at(-7, 7, 8), true},
		{"many ways and some steps below", at(-703, 702, 803), at(0, 0, 0), 0, at(-7, 7, 8), true},
		{"beside such a way", at(-702, 702, 803), at(0, 0, 0), 0, at(-7, 7, 8), false},
		{"near a stump only beyond the border", at(1000, 0, 0), at(999, -5, -5), 4, at(1, 1, 1), true},
		{"too far beyond the border", at(1000, 0, 0), at(999, -5, -5), 3, at(1, 1, 1), false},
		{"from the lowest to the highest", at(0, 0, 1000), at(0, 0, -999), 0, at(0, 0, 8), true},
		{"near the highest only after 2007 steps", at(-758, -758, 1000), at(999, 999, -999), 8, at(-7, -7, 8), true},
		{"never near enough", at(-758, -758, 1000), at(999, 999, -999), 7, at(-7, -7, 8), false},
		{"not yet near after 2007 steps", at(-759, -758, 1000), at(999, 999, -999), 8, at(-7, -7, 8), false},
	} {
		p := restore.Plan{Stump: []api.Cell{c.stump}, Shape: []api.Cell{c.shape}, Gap: c.gap, Way: c.way}
		var blocked, crown []api.Cell
		if c.blocked {
			blocked = p.Shape
		} else {
			crown = p.Shape
		}
		same(t, "Blocked: "+c.what, fine[[]api.Cell](t)(restore.Blocked(p)), blocked)
		same(t, "Crown: "+c.what, fine[[]api.Cell](t)(restore.Crown(p)), crown)
	}
}

func TestCrowns(t *testing.T) {
	r := dice()
	below := 0
	for range 1500 {
		p := randomPlan(r)
		before := copied(p)
		crown := crownOf(p)
		seat := where(p.Shape, func(c api.Cell) bool { return nearest(c, p.Stump) <= p.Gap })
		blocked := without(p.Shape, crown)
		same(t, "Seat", fine[[]api.Cell](t)(restore.Seat(p)), seat)
		same(t, "Blocked", fine[[]api.Cell](t)(restore.Blocked(p)), blocked)
		same(t, "Crown", fine[[]api.Cell](t)(restore.Crown(p)), crown)
		same(t, "the plan afterwards", p, before)
		if len(blocked) > len(seat) && len(crown) > 0 {
			below++
		}
		if t.Failed() {
			t.Fatalf("of %+v", p)
		}
	}
	if below < 300 {
		t.Errorf("only in %d of 1500 plans some cells are below a stump", below)
	}
}

// TestFarCrowns has steps of hundreds on ways of each kind.
func TestFarCrowns(t *testing.T) {
	r := dice()
	blocked := 0
	for range 4000 {
		way := at(between(r, -8, 8), between(r, -8, 8), between(r, 1, 8))
		k := between(r, 0, 2007)
		by := shift(way, k)
		from := at(between(r, -999, 999), between(r, -999, 999), between(r, -999, 999))
		to := plus(plus(from, by), randomCell(r, at(-4, -4, -4), at(4, 4, 4)))
		if to != at(min(max(to.X, -1000), 1000), min(max(to.Y, -1000), 1000), min(max(to.Z, -1000), 1000)) {
			continue
		}
		p := restore.Plan{Stump: []api.Cell{to}, Shape: []api.Cell{from}, Gap: between(r, 0, 8), Way: way}
		var wanted []api.Cell
		for n := max(0, k-20); n <= k+20; n++ {
			if apart(plus(from, shift(way, n)), to) <= p.Gap {
				wanted = p.Shape
			}
		}
		blocked += len(wanted)
		same(t, "Blocked", fine[[]api.Cell](t)(restore.Blocked(p)), wanted)
	}
	if blocked < 300 {
		t.Errorf("only %d cells are blocked", blocked)
	}
}

// TestLargestCrowns has as many cells as there may be: below a block, where distances are told by its box, and scattered.
func TestLargestCrowns(t *testing.T) {
	p := restore.Plan{Stump: block(at(0, 0, 0), at(15, 15, 15)), Shape: block(at(0, 0, -16), at(15, 15, -1)), Gap: 8}
	for _, way := range []api.Cell{at(0, 0, 1), at(8, 0, 8), at(8, 0, 1), at(-3, 8, 5)} {
		p.Way = way
		wanted := where(p.Shape, func(c api.Cell) bool {
			for k := range 40 {
				to := plus(c, shift(way, k))
				if apart(to, at(min(max(to.X, 0), 15), min(max(to.Y, 0), 15), min(max(to.Z, 0), 15))) <= p.Gap {
					return false
				}
			}
			return true
		})
		same(t, "the seat below a block", len(fine[[]api.Cell](t)(restore.Seat(p))), 8*256)
		same(t, "the crown below a block", fine[[]api.Cell](t)(restore.Crown(p)), wanted)
		same(t, "what is blocked below a block", len(fine[[]api.Cell](t)(restore.Blocked(p))), 4096-len(wanted))
	}
	scattered := restore.Plan{Gap: 8, Way: at(1, -1, 3)}
	for i := range 4096 {
		scattered.Stump = append(scattered.Stump, at(i%16*60, i/16%16*60, i/256*60))
		scattered.Shape = append(scattered.Shape, at(i%16*60+5, i/16%16*60, i/256*60-4))
	}
	scattered.Stump, scattered.Shape = setOf(scattered.Stump...), setOf(scattered.Shape...)
	same(t, "the seat of scattered cells", fine[[]api.Cell](t)(restore.Seat(scattered)), nil)
	same(t, "the crown of scattered cells", fine[[]api.Cell](t)(restore.Crown(scattered)), nil)
}

func TestShifted(t *testing.T) {
	p := changed(func(p *restore.Plan) { p.Others, p.Gap, p.Wall, p.Way = []api.Cell{at(1, 0, 2)}, 3, 2, at(1, -2, 3) })
	q := fine[restore.Plan](t)(restore.Shifted(p, at(5, -6, 7)))
	same(t, "a plan that is shifted", q, restore.Plan{
		Stump: []api.Cell{at(5, -6, 7), at(5, -6, 8)}, Shape: block(at(4, -7, 7), at(6, -5, 9)), Others: []api.Cell{at(6, -6, 9)},
		Gap: 3, Wall: 2, Margin: 6, Way: at(1, -2, 3),
	})
	for _, c := range []api.Cell{at(2001, 0, 0), at(-2001, 0, 0), at(0, 2001, 0), at(0, -2001, 0), at(0, 0, 2001), at(0, 0, -2001), at(least, 0, 0), at(0, greatest, 0), at(0, 0, greatest), at(0, 0, least)} {
		q, e := restore.Shifted(p, c)
		refused(t, "a vector", q, e, api.ErrRange)
	}
	for _, c := range []struct {
		what string
		p    restore.Plan
		by   api.Cell
		e    api.Errno
	}{
		{"by nothing", p, at(0, 0, 0), api.OK},
		{"up to the border", p, at(998, 998, 997), api.OK},
		{"down to the border", p, at(-998, -998, -999), api.OK},
		{"a shape at the border", p, at(0, 0, 998), api.ErrRange},
		{"a shape at the other border", p, at(-999, 0, 0), api.ErrRange},
		{"from one border to the other one", changed(func(p *restore.Plan) {
			p.Stump, p.Shape, p.Margin = []api.Cell{at(-1000, -1000, 1000)}, []api.Cell{at(-999, -999, 999)}, 1000
		}), at(1998, 1998, -1998), api.OK},
		{"the stump goes out", changed(func(p *restore.Plan) { p.Stump = []api.Cell{at(0, 1000, 0)} }), at(0, 1, 0), api.ErrRange},
		{"the others go out", changed(func(p *restore.Plan) { p.Others = []api.Cell{at(0, 0, -1000)} }), at(0, 0, -1), api.ErrRange},
		{"the margin goes out at the top", changed(func(p *restore.Plan) { p.Margin = 1000 }), at(0, 0, 1), api.ErrRange},
		{"the margin goes out below", changed(func(p *restore.Plan) { p.Margin = -1000 }), at(0, 0, -1), api.ErrRange},
		{"the margin stays", changed(func(p *restore.Plan) { p.Margin = -1000 }), at(9, 9, 0), api.OK},
	} {
		q, e := restore.Shifted(c.p, c.by)
		if c.e != api.OK {
			refused(t, "Shifted: "+c.what, q, e, c.e)
			continue
		}
		same(t, "Shifted: "+c.what, e, api.OK)
		back := fine[restore.Plan](t)(restore.Shifted(q, at(-c.by.X, -c.by.Y, -c.by.Z)))
		same(t, "Shifted, and back: "+c.what, back, c.p)
	}
}

func TestMirrored(t *testing.T) {
	p := changed(func(p *restore.Plan) { p.Others, p.Gap, p.Wall, p.Way = []api.Cell{at(1, 1, 2)}, 3, 2, at(1, -2, 3) })
	same(t, "across X", fine[restore.Plan](t)(restore.Mirrored(p, 0, 2)), restore.Plan{
		Stump: []api.Cell{at(4, 0, 0), at(4, 0, 1)}, Shape: block(at(3, -1, 0), at(5, 1, 2)), Others: []api.Cell{at(3, 1, 2)},
		Gap: 3, Wall: 2, Margin: -1, Way: at(-1, -2, 3),
	})
	same(t, "across Y", fine[restore.Plan](t)(restore.Mirrored(p, 1, -3)), restore.Plan{
		Stump: []api.Cell{at(0, -6, 0), at(0, -6, 1)}, Shape: block(at(-1, -7, 0), at(1, -5, 2)), Others: []api.Cell{at(1, -7, 2)},
		Gap: 3, Wall: 2, Margin: -1, Way: at(1, 2, 3),
	})
	for _, axis := range []int{-1, 2, 3, least, greatest} {
		q, e := restore.Mirrored(p, axis, 2000)
		refused(t, "an axis", q, e, api.ErrKind)
	}
	for _, n := range append(outOf(-1000, 1000), 500, -500) {
		q, e := restore.Mirrored(p, 0, n)
		refused(t, "a plane across X", q, e, api.ErrRange)
		q, e = restore.Mirrored(p, 1, n)
		refused(t, "a plane across Y", q, e, api.ErrRange)
	}
	same(t, "up to the border", fine[restore.Plan](t)(restore.Mirrored(p, 0, 499)).Shape, block(at(997, -1, 0), at(999, 1, 2)))
	for _, c := range []struct {
		what string
		p    restore.Plan
	}{
		{"the stump goes out", changed(func(p *restore.Plan) { p.Stump = []api.Cell{at(-1000, -1000, 0)} })},
		{"the shape goes out", changed(func(p *restore.Plan) { p.Shape = []api.Cell{at(-999, -999, 0)} })},
		{"the others go out", changed(func(p *restore.Plan) { p.Others = []api.Cell{at(-1000, -1000, 0)} })},
	} {
		for axis := range 2 {
			q, e := restore.Mirrored(c.p, axis, 1)
			refused(t, "Mirrored: "+c.what, q, e, api.ErrRange)
		}
	}
	r := dice()
	for range 200 {
		p, axis, plane := randomPlan(r), r.IntN(2), between(r, -50, 50)
		q := fine[restore.Plan](t)(restore.Mirrored(p, axis, plane))
		same(t, "the mirror image of the mirror image", fine[restore.Plan](t)(restore.Mirrored(q, axis, plane)), p)
	}
}

// TestMemoryOfPlans: no plan that is moved has memory of the other one, also when it stays where it is.
func TestMemoryOfPlans(t *testing.T) {
	p := changed(func(p *restore.Plan) { p.Others = []api.Cell{at(2, 0, 0)} })
	p.Shape = block(at(0, 0, 0), at(0, 0, 2))
	before := copied(p)
	shifted := fine[restore.Plan](t)(restore.Shifted(p, api.Cell{}))
	mirrored := fine[restore.Plan](t)(restore.Mirrored(p, 1, 0))
	same(t, "by nothing", shifted, p)
	same(t, "across the own plane", mirrored, p)
	for _, q := range []restore.Plan{shifted, mirrored} {
		for _, l := range [][]api.Cell{q.Stump, q.Shape, q.Others} {
			l[0] = at(7, 7, 7)
			_ = append(l[:0], at(8, 8, 8))
		}
		same(t, "the first plan", p, before)
	}
	crown := fine[[]api.Cell](t)(restore.Crown(changed(func(p *restore.Plan) { p.Stump = []api.Cell{at(500, 0, 0)} })))
	same(t, "a whole shape as a crown", crown, sample().Shape)
	p.Stump = []api.Cell{at(0, 0, 500)}
	seat := fine[[]api.Cell](t)(restore.Blocked(p))
	same(t, "a whole shape that is blocked", seat, p.Shape)
	slices.Reverse(seat)
	same(t, "the shape", p.Shape, before.Shape)
}
