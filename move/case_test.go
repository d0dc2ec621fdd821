package move_test

import (
	"slices"
	"strings"
	"testing"

	"cusp/api"
	"cusp/move"
)

func TestErrorsOfCases(t *testing.T) {
	for _, f := range faultyCases() {
		same(t, "CheckCase: "+f.what, move.CheckCase(f.arg), f.e)
		same(t, "CheckState: "+f.what, move.CheckState(f.arg, nil), f.e)
		l, e := move.Cells(f.arg, -1, to(0, 0, 0, 4))
		refused(t, "Cells: "+f.what, l, e, f.e)
		n, e := move.Distance(f.arg, nil, -1, -1)
		refused(t, "Distance: "+f.what, n, e, f.e)
	}
}

func TestCasesAtTheLimits(t *testing.T) {
	long := strings.Repeat("x", 24)
	wide := move.Case{Low: at(-1000, -1000, -1000), High: at(1000, 1000, 1000), Shift: 8, Turn: 2, Gap: 8}
	for i := range 16 {
		wide.Teeth = append(wide.Teeth, one(string(rune('a'+i)), to(9*i, 0, 0, 3), to(1000-9*i, -1000, 1000)))
	}
	for _, c := range []struct {
		what string
		c    move.Case
	}{
		{"E", caseE()},
		{"F", caseF(0)},
		{"no teeth", move.Case{}},
		{"all limits", wide},
		{"a box of one cell", move.Case{Low: at(5, 5, 5), High: at(5, 5, 5), Teeth: []move.Tooth{one(long, to(5, 5, 5), to(5, 5, 5, 3))}}},
		{"the greatest tooth", alone(at(0, 0, 0), at(4, 0, 999), move.Tooth{Name: "a", Cells: row(4096)})},
		{"far cells that are shifted back", alone(at(0, 0, 0), at(0, 0, 0), move.Tooth{Name: "a", Cells: []api.Cell{at(1000, -1000, 1000)}, From: to(-1000, 1000, -1000), To: to(-1000, -1000, -1000, 1)})},
		{"turned to what is in the box", alone(at(0, 0, 0), at(0, 1, 0), move.Tooth{Name: "a", Cells: []api.Cell{at(0, 0, 0), at(1, 0, 0)}, From: to(0, 0, 0, 1), To: to(0, 1, 0, 3)})},
		{"a tooth as tall as the box", alone(at(3, 3, 3), at(3, 3, 5), move.Tooth{Name: "a", Cells: row(3), From: to(3, 3, 3), To: to(3, 3, 3, 1)})},
		{"one step more than the gap", caseE(func(c *move.Case) { c.Gap, c.Teeth[0].To, c.Teeth[1].From = 1, to(3, 1, 0), to(2, 0, 0) })},
		{"names that differ in a letter's size", caseE(func(c *move.Case) { c.Teeth[1].Name = "A" })},
		{"fixed teeth", caseE(func(c *move.Case) { c.Teeth = []move.Tooth{fixed("a", to(1, 1, 0, 2)), fixed("b1", to(2, 0, 0))} })},
	} {
		same(t, c.what, move.CheckCase(c.c), api.OK)
	}
}

func TestCells(t *testing.T) {
	long := move.Tooth{Name: "a", Cells: []api.Cell{at(0, 0, 0), at(1, 0, 0)}}
	c := alone(at(0, 0, 0), at(3, 3, 0), long)
	for _, f := range []struct {
		what   string
		p      move.Place
		wanted []api.Cell
	}{
		{"of the chapter", to(2, 2, 0, 1), []api.Cell{at(2, 2, 0), at(2, 3, 0)}},
		{"as they are", to(0, 0, 0), long.Cells},
		{"turned twice", to(0, 0, 0, 2), []api.Cell{at(-1, 0, 0), at(0, 0, 0)}},
		{"turned three times, and out of the box", to(0, 0, 9, 3), []api.Cell{at(0, -1, 9), at(0, 0, 9)}},
		{"out of the grid", to(1000, -1000, 1000), []api.Cell{at(1000, -1000, 1000), at(1001, -1000, 1000)}},
	} {
		same(t, "Cells: "+f.what, fine[[]api.Cell](t)(move.Cells(c, 0, f.p)), f.wanted)
	}
	far := alone(at(0, 0, 0), at(0, 0, 0), move.Tooth{Name: "a", Cells: []api.Cell{at(1000, -1000, 1000)}, From: to(-1000, 1000, -1000), To: to(-1000, 1000, -1000)})
	same(t, "as far as cells can be", fine[[]api.Cell](t)(move.Cells(far, 0, to(1000, 1000, 1000, 1))), []api.Cell{at(2000, 2000, 2000)})
	for _, n := range outOf(0, 1) {
		l, e := move.Cells(caseE(), n, to(0, 0, 0, 4))
		refused(t, "no tooth", l, e, api.ErrUnknown)
	}
	for _, p := range badPlaces() {
		l, e := move.Cells(caseE(), 1, p)
		refused(t, "no place", l, e, api.ErrRange)
	}
	l, e := move.Cells(move.Case{}, 0, to(0, 0, 0))
	refused(t, "no teeth", l, e, api.ErrUnknown)
	r := dice()
	for range 300 {
		tooth := move.Tooth{Name: "a", Cells: randomSet(r, 30, at(-3, -3, -3), at(3, 3, 3))}
		c, p := alone(at(-3, -3, -3), at(3, 3, 3), tooth), to(between(r, -9, 9), between(r, -9, 9), between(r, -9, 9), r.IntN(4))
		same(t, "Cells", fine[[]api.Cell](t)(move.Cells(c, 0, p)), cellsOf(tooth, p))
	}
}

func TestErrorsOfStates(t *testing.T) {
	c := caseE(func(c *move.Case) {
		c.High, c.Gap = at(9, 1, 0), 1
		c.Teeth = []move.Tooth{one("a", to(0, 0, 0), to(0, 0, 0)), one("b", to(2, 0, 0), to(2, 0, 0)), one("c", to(4, 0, 0), to(4, 0, 0))}
	})
	states := []faulty[[]move.Place]{
		{"no places", nil, api.ErrShape},
		{"a place less", []move.Place{to(-1, 0, 0), to(2, 0, 0)}, api.ErrShape},
		{"a place more", many(4, to(0, 0, 0, 9)), api.ErrShape},
		{"out of the box before no place", []move.Place{to(0, 0, 0), to(0, 2, 0), to(0, 0, 0, 4)}, api.ErrRange},
		{"out of the box below", []move.Place{to(0, 0, 0), to(4, 0, 0), to(8, 0, -1)}, api.ErrRange},
		{"a cell shared before no place", []move.Place{to(0, 0, 0), to(0, 0, 0), to(0, 0, 0, 4)}, api.ErrHit},
		{"too near before out of the box", []move.Place{to(0, 0, 0), to(0, 1, 0), to(10, 0, 0)}, api.ErrGap},
		{"too near to a tooth, and in a later one", []move.Place{to(2, 0, 0), to(4, 0, 0), to(3, 0, 0)}, api.ErrGap},
		{"in a tooth, and too near to a later one", []move.Place{to(4, 0, 0), to(6, 0, 0), to(4, 0, 0)}, api.ErrHit},
		{"too near to the last one alone", []move.Place{to(0, 0, 0), to(4, 0, 0), to(5, 0, 0)}, api.ErrGap},
	}
	for _, p := range badPlaces() {
		states = append(states, faulty[[]move.Place]{"no place", []move.Place{to(0, 0, 0), p, to(0, 0, 0)}, api.ErrRange})
	}
	for _, s := range states {
		same(t, "CheckState: "+s.what, move.CheckState(c, s.arg), s.e)
		n, e := move.Distance(c, s.arg, -1, -1)
		refused(t, "Distance: "+s.what, n, e, s.e)
		same(t, "CheckStage from: "+s.what, move.CheckStage(c, s.arg, nil), s.e)
		same(t, "CheckStage to: "+s.what, move.CheckStage(c, []move.Place{to(9, 1, 0), to(0, 0, 0), to(5, 0, 0)}, s.arg), s.e)
	}
	tall := alone(at(0, 0, 0), at(0, 0, 5), move.Tooth{Name: "a", Cells: row(3), To: to(0, 0, 3)})
	for z, wanted := range map[int]api.Errno{-3: api.ErrRange, -1: api.ErrRange, 0: api.OK, 3: api.OK, 4: api.ErrRange, 6: api.ErrRange} {
		same(t, "a tall tooth", move.CheckState(tall, []move.Place{to(0, 0, z)}), wanted)
	}
	same(t, "two steps apart", move.CheckState(c, []move.Place{to(0, 0, 0), to(1, 1, 0), to(3, 1, 0)}), api.OK)
	same(t, "turns that do nothing, and fixed teeth elsewhere", move.CheckState(caseF(1), []move.Place{to(2, 0, 0, 1), to(0, 0, 0, 3)}), api.OK)
	same(t, "no teeth", move.CheckState(move.Case{}, nil), api.OK)
	same(t, "a place without a tooth", move.CheckState(move.Case{}, []move.Place{{}}), api.ErrShape)
}

// TestStates compares the errors of random states with those of the definition.
func TestStates(t *testing.T) {
	r := dice()
	seen := map[api.Errno]int{}
	for range 1500 {
		c := randomCase(r)
		s := made(c.Teeth, func(tooth move.Tooth) move.Place { return likelyPlace(r, c, tooth) })
		seen[errorOf(c, s)]++
		same(t, "CheckState", move.CheckState(c, s), errorOf(c, s))
		n, e := move.Distance(c, s, 0, len(s)-1)
		switch {
		case errorOf(c, s) != api.OK:
			refused(t, "Distance", n, e, errorOf(c, s))
		case len(s) == 1:
			refused(t, "Distance of a tooth from itself", n, e, api.ErrTwice)
		default:
			same(t, "Distance", n, apart(cellsOf(c.Teeth[0], s[0]), cellsOf(c.Teeth[len(s)-1], s[len(s)-1])))
			same(t, "its error", e, api.OK)
		}
	}
	for _, e := range []api.Errno{api.OK, api.ErrRange, api.ErrHit, api.ErrGap} {
		if seen[e] < 50 {
			t.Errorf("seen: %v", seen)
		}
	}
}

// TestGaps compares teeth with many cells, which are nearer, as near, or further than the gap.
func TestGaps(t *testing.T) {
	r := dice()
	seen := map[api.Errno]int{}
	for range 1500 {
		c := move.Case{Low: at(-40, -40, -40), High: at(40, 40, 40), Gap: r.IntN(9), Teeth: []move.Tooth{
			{Name: "a", Cells: randomSet(r, 60, at(-5, -5, -5), at(5, 5, 5)), From: to(-20, 0, 0), To: to(-20, 0, 0)},
			{Name: "b", Cells: randomSet(r, 60, at(-3, -9, 0), at(3, 9, 1)), From: to(20, 0, 0), To: to(20, 0, 0)},
		}}
		s := []move.Place{to(between(r, -6, 6), between(r, -6, 6), 0, r.IntN(4)), to(between(r, -6, 6), between(r, -6, 6), between(r, 0, 20), r.IntN(4))}
		seen[errorOf(c, s)]++
		same(t, "CheckState", move.CheckState(c, s), errorOf(c, s))
	}
	for _, e := range []api.Errno{api.OK, api.ErrHit, api.ErrGap} {
		if seen[e] < 50 {
			t.Errorf("seen: %v", seen)
		}
	}
}

func TestDistance(t *testing.T) {
	s := []move.Place{to(3, 1, 0), to(0, 0, 0)}
	same(t, "Distance", fine[int](t)(move.Distance(caseE(), s, 0, 1)), 4)
	same(t, "Distance the other way", fine[int](t)(move.Distance(caseE(), s, 1, 0)), 4)
	for _, n := range outOf(0, 1) {
		d, e := move.Distance(caseE(), s, n, 0)
		refused(t, "no first tooth", d, e, api.ErrUnknown)
		d, e = move.Distance(caseE(), s, 0, n)
		refused(t, "no second tooth", d, e, api.ErrUnknown)
		d, e = move.Distance(caseE(), s, n, n)
		refused(t, "none of both", d, e, api.ErrUnknown)
	}
	d, e := move.Distance(caseE(), s, 1, 1)
	refused(t, "the same tooth", d, e, api.ErrTwice)
	d, e = move.Distance(move.Case{}, nil, 0, 0)
	refused(t, "no teeth", d, e, api.ErrUnknown)
	corners := move.Case{Low: at(-1000, -1000, -1000), High: at(1000, 1000, 1000), Teeth: caseE().Teeth}
	same(t, "from corner to corner", fine[int](t)(move.Distance(corners, []move.Place{to(-1000, 1000, -1000), to(1000, -1000, 1000, 3)}, 0, 1)), 6000)
}

// TestMemoryOfCases: what is asked does not change the arguments, and what is answered is not a part of them.
func TestMemoryOfCases(t *testing.T) {
	long := move.Tooth{Name: "a", Cells: []api.Cell{at(0, 0, 0), at(1, 0, 0)}, To: to(2, 0, 0, 1)}
	c := alone(at(-1, -1, -1), at(3, 3, 0), long)
	before := copied(c)
	for turn := range 4 {
		l := fine[[]api.Cell](t)(move.Cells(c, 0, to(0, 0, 0, turn)))
		slices.Reverse(l)
		l[0] = at(7, 7, 7)
		same(t, "the case afterwards", c, before)
	}
}
