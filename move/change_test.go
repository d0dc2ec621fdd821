package move_test

import (
	"slices"
	"testing"

	"cusp/api"
	"cusp/move"
)

// changes reports a change of a case and a plan that is not refused with an error.
func changes(t *testing.T, what string, c move.Case, p plan, wanted api.Errno) {
	t.Helper()
	back, states, e := move.Backwards(c, p)
	refused(t, "the case of Backwards: "+what, back, e, wanted)
	refused(t, "the plan of Backwards: "+what, states, e, wanted)
	image, states, e := move.Mirrored(c, p)
	refused(t, "the case of Mirrored: "+what, image, e, wanted)
	refused(t, "the plan of Mirrored: "+what, states, e, wanted)
}

func TestErrorsOfChanges(t *testing.T) {
	for _, f := range faultyCases() {
		for _, p := range []plan{nil, {nil}, make(plan, 201)} {
			changes(t, f.what, f.arg, p, f.e)
		}
		c, e := move.Strip(f.arg, -1, many(4097, at(0, 0, 0)))
		refused(t, "Strip: "+f.what, c, e, f.e)
	}
	right := []move.Place{to(0, 0, 0), to(1, 0, 0)}
	for _, f := range []faulty[plan]{
		{"201 states", many(201, right), api.ErrMany},
		{"201 faulty states", make(plan, 201), api.ErrMany},
		{"a place less", plan{right, {to(0, 0, 0)}}, api.ErrShape},
		{"a place more", plan{right, append(slices.Clone(right), to(0, 0, 0))}, api.ErrShape},
		{"no places", plan{nil}, api.ErrShape},
		{"a place less that is none", plan{{to(0, 0, 0, 4)}}, api.ErrShape},
		{"a place that is none before a place less", plan{right, {to(0, 0, 0, 4), to(0, 0, 0)}, nil}, api.ErrRange},
		{"a place less before a place that is none", plan{right, nil, {to(0, 0, 0, 4), to(0, 0, 0)}}, api.ErrShape},
	} {
		changes(t, f.what, caseE(), f.arg, f.e)
	}
	for _, p := range badPlaces() {
		changes(t, "a first place that is none", caseE(), plan{right, {p, to(0, 0, 0)}}, api.ErrRange)
		changes(t, "a last place that is none", caseE(), plan{right, {to(0, 0, 0), p}}, api.ErrRange)
	}
	changes(t, "places without teeth", move.Case{}, plan{{}, right}, api.ErrShape)
}

func TestBackwards(t *testing.T) {
	back := caseE(func(c *move.Case) {
		c.Teeth = []move.Tooth{one("a", to(2, 0, 0), to(0, 0, 0)), one("b", to(0, 0, 0), to(1, 0, 0))}
	})
	p := planE()
	c, turned := both(t)(move.Backwards(caseE(), p))
	same(t, "the case", c, back)
	same(t, "the plan", turned, plan{p[2], p[1], p[0]})
	c, turned = both(t)(move.Backwards(caseE(), nil))
	same(t, "the case without a plan", c, back)
	same(t, "no plan", turned, nil)
	// Plans that are not accepted, and even states that are not valid, have a way back.
	wild := plan{{to(-1000, 1000, -1000, 3), to(1000, 0, 0)}, {to(7, 7, 7), to(7, 7, 7)}}
	_, turned = both(t)(move.Backwards(caseE(), wild))
	same(t, "a plan that is not accepted", turned, plan{wild[1], wild[0]})
	_, turned = both(t)(move.Backwards(caseE(), many(200, p[0])))
	same(t, "200 states", turned, many(200, p[0]))
	c, turned = both(t)(move.Backwards(move.Case{}, plan{{}, {}}))
	same(t, "the case without teeth", c, move.Case{})
	same(t, "its states", len(turned), 2)
	long := move.Tooth{Name: "a", Cells: []api.Cell{at(-1, 0, 0), at(0, 5, 0)}, From: to(5, 5, 5, 1), To: to(6, 6, 6, 2)}
	fast := move.Case{Low: at(-9, -8, -7), High: at(17, 18, 19), Shift: 3, Turn: 2, Gap: 5, Teeth: []move.Tooth{long, fixed("b", to(-9, -8, -7, 3))}}
	c, _ = both(t)(move.Backwards(fast, nil))
	fast.Teeth[0].From, fast.Teeth[0].To = to(6, 6, 6, 2), to(5, 5, 5, 1)
	same(t, "all that stays", c, fast)
}

func TestMirrored(t *testing.T) {
	image := move.Case{Low: at(-3, 0, 0), High: at(0, 1, 0), Shift: 1, Teeth: []move.Tooth{one("a", to(0, 0, 0), to(-2, 0, 0)), one("b", to(-1, 0, 0), to(0, 0, 0))}}
	c, p := both(t)(move.Mirrored(caseE(), planE()))
	same(t, "the case of the chapter", c, image)
	same(t, "its plan", p, plan{{to(0, 0, 0), to(-1, 0, 0)}, {to(-1, 0, 0), to(0, 0, 0)}, {to(-2, 0, 0), to(0, 0, 0)}})
	c, p = both(t)(move.Mirrored(caseE(), nil))
	same(t, "the case without a plan", c, image)
	same(t, "no plan", p, nil)
	long := move.Tooth{Name: "a", Cells: []api.Cell{at(-1, 2, 3), at(0, 0, 0), at(0, 1, 0), at(5, 0, 0)}, From: to(1, 2, 3, 1), To: to(-4, 5, 6, 2)}
	fast := move.Case{Low: at(-20, -30, -40), High: at(21, 31, 41), Shift: 3, Turn: 2, Gap: 5, Teeth: []move.Tooth{long, fixed("b", to(-9, -8, -7, 3))}}
	wild := plan{{to(-1000, 1000, -999, 3), to(1000, 0, 0)}, {to(7, 8, 9, 2), to(7, 8, 9, 1)}}
	c, p = both(t)(move.Mirrored(fast, wild))
	same(t, "a plan that is not accepted", p, plan{{to(1000, 1000, -999, 1), to(-1000, 0, 0)}, {to(-7, 8, 9, 2), to(-7, 8, 9, 3)}})
	fast.Low, fast.High = at(-21, -30, -40), at(20, 31, 41)
	fast.Teeth[0] = move.Tooth{Name: "a", Cells: []api.Cell{at(-5, 0, 0), at(0, 0, 0), at(0, 1, 0), at(1, 2, 3)}, From: to(-1, 2, 3, 3), To: to(4, 5, 6, 2)}
	fast.Teeth[1] = fixed("b", to(9, -8, -7, 1))
	same(t, "its case", c, fast)
	c, p = both(t)(move.Mirrored(move.Case{Low: at(-1000, 0, 0), High: at(999, 0, 0)}, plan{{}, {}}))
	same(t, "the case without teeth", c, move.Case{Low: at(-999, 0, 0), High: at(1000, 0, 0)})
	same(t, "its states", len(p), 2)
	_, p = both(t)(move.Mirrored(caseE(), many(200, []move.Place{to(1, 0, 0), to(2, 0, 0)})))
	same(t, "200 states", p, many(200, []move.Place{to(-1, 0, 0), to(-2, 0, 0)}))
	r := dice()
	for range 300 {
		c, p := randomWalk(r)
		image, states := both(t)(move.Mirrored(c, p))
		same(t, "its box", [2]api.Cell{image.Low, image.High}, [2]api.Cell{at(-c.High.X, c.Low.Y, c.Low.Z), at(-c.Low.X, c.High.Y, c.High.Z)})
		for n, s := range p {
			for i, tooth := range c.Teeth {
				// All cells are mirrored, wherever a tooth goes and however it turns.
				negated := setOf(made(cellsOf(tooth, s[i]), func(c api.Cell) api.Cell { return at(-c.X, c.Y, c.Z) })...)
				same(t, "the cells of a tooth", cellsOf(image.Teeth[i], states[n][i]), negated)
			}
		}
		twice, again := both(t)(move.Mirrored(image, states))
		same(t, "mirrored twice", twice, c)
		same(t, "its plan mirrored twice", again, p)
	}
}

func TestErrorsOfStrip(t *testing.T) {
	long := move.Tooth{Name: "a", Cells: row(4), To: to(1, 0, 0)}
	c := alone(at(0, 0, 0), at(5, 5, 5), long)
	for _, n := range outOf(0, 0) {
		got, e := move.Strip(c, n, many(4097, at(0, 0, 0)))
		refused(t, "no tooth", got, e, api.ErrUnknown)
	}
	sets := append(faultySets(),
		faulty[[]api.Cell]{"another cell", []api.Cell{at(0, 0, 4)}, api.ErrUnknown},
		faulty[[]api.Cell]{"all cells and another one", row(5), api.ErrUnknown},
		faulty[[]api.Cell]{"a cell before the first one", []api.Cell{at(-1, 0, 0), at(0, 0, 0)}, api.ErrUnknown},
		faulty[[]api.Cell]{"another cell in a wrong order", []api.Cell{at(0, 0, 4), at(0, 0, 0)}, api.ErrOrder},
		faulty[[]api.Cell]{"a cell where the tooth goes", []api.Cell{at(1, 0, 0)}, api.ErrUnknown},
		faulty[[]api.Cell]{"all cells", row(4), api.ErrEmpty},
	)
	for _, s := range sets {
		got, e := move.Strip(c, 0, s.arg)
		refused(t, "Strip: "+s.what, got, e, s.e)
	}
	got, e := move.Strip(move.Case{}, 0, nil)
	refused(t, "no teeth", got, e, api.ErrUnknown)
}

func TestStrip(t *testing.T) {
	long := move.Tooth{Name: "b", Cells: row(4), From: to(2, 0, 0, 1), To: to(2, 0, 1, 3)}
	c := alone(at(0, 0, 0), at(5, 5, 5), one("a", to(0, 0, 0), to(1, 0, 0)))
	c.Teeth = append(c.Teeth, long, move.Tooth{Name: "c", Cells: row(2), Fixed: true, From: to(4, 4, 4), To: to(4, 4, 4)})
	for _, f := range []struct {
		what        string
		cells, left []api.Cell
	}{
		{"nothing", nil, row(4)},
		{"the first cell", []api.Cell{at(0, 0, 0)}, []api.Cell{at(0, 0, 1), at(0, 0, 2), at(0, 0, 3)}},
		{"the last cell", []api.Cell{at(0, 0, 3)}, row(3)},
		{"two between", []api.Cell{at(0, 0, 1), at(0, 0, 2)}, []api.Cell{at(0, 0, 0), at(0, 0, 3)}},
		{"all but one", []api.Cell{at(0, 0, 0), at(0, 0, 2), at(0, 0, 3)}, []api.Cell{at(0, 0, 1)}},
	} {
		wanted := copied(c)
		wanted.Teeth[1].Cells = f.left
		same(t, "Strip: "+f.what, fine[move.Case](t)(move.Strip(c, 1, f.cells)), wanted)
	}
	still := copied(c)
	still.Teeth[2].Cells = row(1)
	same(t, "a fixed tooth", fine[move.Case](t)(move.Strip(c, 2, []api.Cell{at(0, 0, 1)})), still)
	// The cells of the tooth are told as they are, turned and shifted by nothing.
	got, e := move.Strip(c, 1, []api.Cell{at(2, 0, 0)})
	refused(t, "a cell of the tooth where it is", got, e, api.ErrUnknown)
	great := alone(at(0, 0, 0), at(4, 0, 999), move.Tooth{Name: "a", Cells: row(4096)})
	same(t, "the greatest tooth", fine[move.Case](t)(move.Strip(great, 0, row(4096)[1:])).Teeth[0].Cells, row(1))
}

// TestMemoryOfChanges: a changed case and plan are no parts of those from which they come, nor of each other.
func TestMemoryOfChanges(t *testing.T) {
	spoil := func(c move.Case, p plan) {
		for i := range c.Teeth {
			clear(c.Teeth[i].Cells)
		}
		clear(c.Teeth)
		for _, s := range p {
			clear(s)
		}
		clear(p)
	}
	r := dice()
	for range 30 {
		c, p := randomWalk(r)
		before, states := copied(c), copiedPlan(p)
		spoil(both(t)(move.Backwards(c, p)))
		spoil(both(t)(move.Mirrored(c, p)))
		spoil(fine[move.Case](t)(move.Strip(c, 0, nil)), nil)
		if l := c.Teeth[0].Cells; len(l) > 1 {
			spoil(fine[move.Case](t)(move.Strip(c, 0, l[:1])), nil)
		}
		same(t, "the case afterwards", c, before)
		same(t, "the plan afterwards", p, states)
		// One state more than once is another list each time.
		_, twice := both(t)(move.Backwards(c, plan{p[0], p[0]}))
		clear(twice[0])
		same(t, "the other state", twice[1], states[0])
	}
}
