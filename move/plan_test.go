package move_test

import (
	"slices"
	"testing"

	"cusp/api"
	"cusp/move"
)

func TestErrorsOfPlans(t *testing.T) {
	for _, f := range faultyCases() {
		same(t, "CheckStage: "+f.what, move.CheckStage(f.arg, nil, nil), f.e)
		for _, p := range []plan{nil, {{}}, make(plan, 201)} {
			n, e := move.CheckPlan(f.arg, p)
			refused(t, "CheckPlan: "+f.what, n, e, f.e)
		}
		n, e := move.Bound(f.arg)
		refused(t, "Bound: "+f.what, n, e, f.e)
		p, e := move.Straight(f.arg)
		refused(t, "Straight: "+f.what, p, e, f.e)
	}
}

func TestCheckStage(t *testing.T) {
	two := caseE(func(c *move.Case) { c.High, c.Shift, c.Turn = at(9, 9, 9), 3, 1 })
	held := caseE(func(c *move.Case) { c.High, c.Shift, c.Turn, c.Teeth[1] = at(9, 9, 9), 3, 2, fixed("b", to(1, 0, 0)) })
	for _, f := range []struct {
		what string
		c    move.Case
		s, t []move.Place
		e    api.Errno
	}{
		{"an exchange", caseE(), []move.Place{to(0, 0, 0), to(1, 0, 0)}, []move.Place{to(1, 0, 0), to(0, 0, 0)}, api.OK},
		{"nothing", caseF(0), []move.Place{to(0, 0, 0), to(1, 0, 0)}, []move.Place{to(0, 0, 0), to(1, 0, 0)}, api.OK},
		{"steps along all axes", two, []move.Place{to(5, 5, 5), to(0, 0, 0)}, []move.Place{to(6, 4, 4), to(0, 1, 2)}, api.OK},
		{"a step too many", two, []move.Place{to(5, 5, 5), to(0, 0, 0)}, []move.Place{to(6, 4, 3), to(0, 0, 0)}, api.ErrRule},
		{"a step too many of the last one", two, []move.Place{to(5, 5, 5), to(4, 0, 0)}, []move.Place{to(5, 5, 5), to(0, 0, 0)}, api.ErrRule},
		{"a quarter over 0", two, []move.Place{to(5, 5, 5, 3), to(0, 0, 0)}, []move.Place{to(5, 5, 5), to(0, 0, 0, 3)}, api.OK},
		{"a quarter too many", two, []move.Place{to(5, 5, 5, 1), to(0, 0, 0)}, []move.Place{to(5, 5, 5, 3), to(0, 0, 0)}, api.ErrRule},
		{"a fixed tooth anywhere that stays", held, []move.Place{to(0, 0, 0, 1), to(5, 5, 0, 2)}, []move.Place{to(0, 0, 0, 3), to(5, 5, 0, 2)}, api.OK},
		{"a fixed tooth that goes", held, []move.Place{to(0, 0, 0), to(5, 5, 0)}, []move.Place{to(0, 0, 0), to(5, 5, 1)}, api.ErrRule},
		{"a fixed tooth that turns", held, []move.Place{to(0, 0, 0), to(5, 5, 0)}, []move.Place{to(0, 0, 0), to(5, 5, 0, 1)}, api.ErrRule},
		{"a faulty second state before a rule", held, []move.Place{to(0, 0, 0), to(9, 9, 9)}, []move.Place{to(0, 0, 0), to(0, 0, 0)}, api.ErrHit},
		{"a faulty first state before a second one", held, []move.Place{to(0, 0, 0), to(0, 0, 0)}, nil, api.ErrHit},
		{"no teeth", move.Case{}, nil, nil, api.OK},
	} {
		same(t, "CheckStage: "+f.what, move.CheckStage(f.c, f.s, f.t), f.e)
	}
}

// TestStages compares stages between random states with the definition.
func TestStages(t *testing.T) {
	seen := map[api.Errno]int{}
	for _, s := range solvedCases()[:60] {
		for _, from := range s.states {
			for i := 0; i < len(s.states); i += 7 {
				wanted := api.OK
				if !isStage(s.c, from, s.states[i]) {
					wanted = api.ErrRule
				}
				seen[wanted]++
				if seen[wanted] < 20000 {
					same(t, "CheckStage", move.CheckStage(s.c, from, s.states[i]), wanted)
				}
			}
		}
	}
	if seen[api.OK] < 500 || seen[api.ErrRule] < 500 {
		t.Errorf("seen: %v", seen)
	}
}

func TestCheckPlan(t *testing.T) {
	p := planE()
	still := caseE(func(c *move.Case) { c.Teeth[0].To, c.Teeth[1].To = c.Teeth[0].From, c.Teeth[1].From })
	for _, f := range []struct {
		what string
		c    move.Case
		p    plan
		n    int
		e    api.Errno
	}{
		{"of the chapter", caseE(), p, 0, api.OK},
		{"with a stage of rest", caseE(), plan{p[0], p[0], p[1], p[1], p[2], p[2]}, 0, api.OK},
		{"no states", caseE(), nil, 0, api.ErrEmpty},
		{"200 states", caseE(), append(many(198, p[0]), p[1:]...), 0, api.OK},
		{"201 states", caseE(), append(many(199, p[0]), p[1:]...), 0, api.ErrMany},
		{"201 faulty states", caseE(), make(plan, 201), 0, api.ErrMany},
		{"a first state with an error", caseE(), plan{{to(0, 0, 0)}, nil}, 0, api.ErrShape},
		{"another first state", caseE(), p[1:], 0, api.ErrState},
		{"another turn at first", caseE(), plan{{to(0, 0, 0, 1), to(1, 0, 0)}, p[1], p[2]}, 0, api.ErrState},
		{"a state with an error", caseE(), plan{p[0], p[1], {to(1, 0, 0), to(1, 0, 0)}, {to(4, 0, 0)}}, 2, api.ErrHit},
		{"a state out of the box that is too far", caseE(), plan{p[0], {to(0, 0, 5), to(1, 0, 0)}}, 1, api.ErrRange},
		{"a stage that is not permitted", caseE(), plan{p[0], p[2], p[2]}, 1, api.ErrRule},
		{"a last stage that is not permitted, to another state", caseE(), plan{p[0], p[1], {to(3, 0, 0), to(0, 0, 0)}}, 2, api.ErrRule},
		{"a stage that is not permitted before a faulty state", caseE(), plan{p[0], p[2], nil}, 1, api.ErrRule},
		{"a turn that is not permitted", caseE(), plan{p[0], {to(1, 0, 0, 1), to(0, 0, 0)}, p[2]}, 1, api.ErrRule},
		{"another last state", caseE(), p[:2], 1, api.ErrState},
		{"the first state alone", caseE(), p[:1], 0, api.ErrState},
		{"beyond the wanted state", caseE(), append(p[:3:3], p[1]), 3, api.ErrState},
		{"nothing to do", still, p[:1], 0, api.OK},
		{"there and back", still, plan{p[0], p[1], p[0]}, 0, api.OK},
		{"past a fixed tooth", caseF(2), plan{{to(0, 0, 0), to(1, 0, 0)}, {to(2, 0, 0), to(1, 0, 0)}}, 0, api.OK},
		{"through a fixed tooth", caseF(1), plan{{to(0, 0, 0), to(1, 0, 0)}, {to(1, 0, 0), to(1, 0, 0)}, {to(2, 0, 0), to(1, 0, 0)}}, 1, api.ErrHit},
		{"a fixed tooth gives way", caseF(2), plan{{to(0, 0, 0), to(1, 0, 0)}, {to(1, 0, 0), to(0, 0, 0)}, {to(2, 0, 0), to(1, 0, 0)}}, 1, api.ErrRule},
		{"a state of no teeth", move.Case{}, plan{{}}, 0, api.OK},
		{"a place too many without teeth", move.Case{}, plan{{}, {{}}}, 1, api.ErrShape},
	} {
		n, e := move.CheckPlan(f.c, f.p)
		same(t, "CheckPlan: "+f.what, e, f.e)
		same(t, "the number: "+f.what, n, f.n)
	}
}

// errorOfPlan returns the number of the first state of a plan with an error, and the error, by the definition.
func errorOfPlan(c move.Case, p plan) (int, api.Errno) {
	for n, s := range p {
		e := errorOf(c, s)
		if e == api.OK && n == 0 && !slices.Equal(s, fromOf(c)) {
			e = api.ErrState
		}
		if e == api.OK && n > 0 && !isStage(c, p[n-1], s) {
			e = api.ErrRule
		}
		if e == api.OK && n == len(p)-1 && !slices.Equal(s, toOf(c)) {
			e = api.ErrState
		}
		if e != api.OK {
			return n, e
		}
	}
	return 0, api.OK
}

// TestPlans compares accepted plans, also with changes, with the definition.
func TestPlans(t *testing.T) {
	r := dice()
	seen := map[api.Errno]int{}
	for range 1000 {
		c, p := randomWalk(r)
		n, e := move.CheckPlan(c, p)
		same(t, "CheckPlan of a walk", e, api.OK)
		same(t, "its number", n, 0)
		changed := copiedPlan(p)
		for range r.IntN(3) {
			i := r.IntN(len(c.Teeth))
			changed[r.IntN(len(p))][i] = likelyPlace(r, c, c.Teeth[i])
		}
		from := r.IntN(len(p))
		changed = slices.Delete(changed, from, between(r, from, min(len(p), from+2)))
		if len(changed) == 0 {
			continue
		}
		wantedN, wantedE := errorOfPlan(c, changed)
		seen[wantedE]++
		n, e = move.CheckPlan(c, changed)
		same(t, "CheckPlan", e, wantedE)
		same(t, "its number", n, wantedN)
	}
	for _, e := range []api.Errno{api.OK, api.ErrRange, api.ErrState, api.ErrRule} {
		if seen[e] < 20 {
			t.Errorf("seen: %v", seen)
		}
	}
}

func TestBound(t *testing.T) {
	far := func(wanted move.Place, shift, turn int) move.Case {
		c := alone(at(-1000, -1000, -1000), at(1000, 1000, 1000), one("a", to(0, 0, 0), wanted))
		c.Shift, c.Turn = shift, turn
		return c
	}
	for _, f := range []struct {
		what  string
		c     move.Case
		bound int
		e     api.Errno
	}{
		{"of the chapter", caseE(), 2, api.OK},
		{"a fixed tooth in the way", caseF(1), 2, api.OK},
		{"a greater shift", caseF(2), 1, api.OK},
		{"no shift", caseF(0), 0, api.ErrInfeasible},
		{"no teeth", move.Case{}, 0, api.OK},
		{"nothing to do", far(to(0, 0, 0), 0, 0), 0, api.OK},
		{"all axes", far(to(3, -2, 2), 3, 0), 3, api.OK},
		{"rounded up", far(to(7, -2, 0), 8, 0), 2, api.OK},
		{"not rounded", far(to(6, -2, 0), 8, 0), 1, api.OK},
		{"quarters", far(to(1, 0, 0, 2), 8, 1), 2, api.OK},
		{"quarters at once", far(to(1, 0, 0, 2), 8, 2), 1, api.OK},
		{"a quarter back", far(to(1, 0, 0, 3), 8, 1), 1, api.OK},
		{"no quarters permitted", far(to(1, 0, 0, 1), 1, 0), 0, api.ErrInfeasible},
		{"no steps permitted", far(to(0, 0, 1, 1), 0, 1), 0, api.ErrInfeasible},
		{"only turns", far(to(0, 0, 0, 1), 0, 1), 1, api.OK},
		{"as far as can be", func() move.Case {
			c := far(to(1000, 1000, 1000), 1, 0)
			c.Teeth[0].From = to(-1000, -1000, -1000)
			return c
		}(), 6000, api.OK},
		{"a later tooth cannot go", caseE(func(c *move.Case) { c.Teeth[0].To, c.Teeth[1].To = c.Teeth[0].From, to(1, 0, 0, 1) }), 0, api.ErrInfeasible},
	} {
		n, e := move.Bound(f.c)
		p, errorOfStraight := move.Straight(f.c)
		if f.e != api.OK {
			refused(t, "Bound: "+f.what, n, e, f.e)
			refused(t, "Straight: "+f.what, p, errorOfStraight, f.e)
			continue
		}
		same(t, "Bound: "+f.what, e, api.OK)
		same(t, "Bound: "+f.what, n, f.bound)
		if n > 199 {
			refused(t, "Straight: "+f.what, p, errorOfStraight, api.ErrMany)
		} else {
			same(t, "the states of Straight: "+f.what, len(p), n+1)
		}
	}
	for steps, wanted := range map[int]api.Errno{199: api.OK, 200: api.ErrMany} {
		p, e := move.Straight(far(to(0, steps, 0), 1, 0))
		same(t, "Straight at the limit", e, wanted)
		same(t, "its states", len(p) == 200, wanted == api.OK)
	}
}

func TestStraight(t *testing.T) {
	same(t, "of the chapter", fine[plan](t)(move.Straight(caseE())), planE())
	turning := alone(at(0, 0, 0), at(0, 0, 0), one("a", to(0, 0, 0, 3), to(0, 0, 0, 1)))
	same(t, "turned as in the chapter", fine[plan](t)(move.Straight(turning)), plan{{to(0, 0, 0, 3)}, {to(0, 0, 0)}, {to(0, 0, 0, 1)}})
	bent := alone(at(0, 0, 0), at(9, 9, 9), one("a", to(5, 5, 5, 0), to(3, 7, 4, 3)))
	bent.Shift = 3
	same(t, "round two corners", fine[plan](t)(move.Straight(bent)), plan{{to(5, 5, 5, 0)}, {to(3, 6, 5, 3)}, {to(3, 7, 4, 3)}})
	same(t, "no teeth", fine[plan](t)(move.Straight(move.Case{})), plan{{}})
	same(t, "nothing to do", fine[plan](t)(move.Straight(alone(at(0, 0, 0), at(0, 0, 0), one("a", to(0, 0, 0, 2), to(0, 0, 0, 2))))), plan{{to(0, 0, 0, 2)}})
	for from := range 4 {
		for by, wanted := range [][]int{{0}, {0, 1}, {0, 1, 2}, {0, 3}} {
			c := alone(at(0, 0, 0), at(0, 0, 0), one("a", to(0, 0, 0, from), to(0, 0, 0, (from+by)%4)))
			states := made(wanted, func(n int) []move.Place { return []move.Place{to(0, 0, 0, (from+n)%4)} })
			same(t, "the way round", fine[plan](t)(move.Straight(c)), states)
			if c.Turn = 2; len(states) == 3 {
				same(t, "half round at once", fine[plan](t)(move.Straight(c)), plan{states[0], states[2]})
			}
		}
	}
}

// next returns the place to which a tooth goes straight in a stage, step by step and quarter by quarter.
func next(c move.Case, p, wanted move.Place) move.Place {
	toward := func(n, wanted int) int {
		if n < wanted {
			return n + 1
		}
		return n - 1
	}
	for range c.Shift {
		switch {
		case p.At.X != wanted.At.X:
			p.At.X = toward(p.At.X, wanted.At.X)
		case p.At.Y != wanted.At.Y:
			p.At.Y = toward(p.At.Y, wanted.At.Y)
		case p.At.Z != wanted.At.Z:
			p.At.Z = toward(p.At.Z, wanted.At.Z)
		}
	}
	for range c.Turn {
		switch (wanted.Turn - p.Turn + 4) % 4 {
		case 1, 2:
			p.Turn = (p.Turn + 1) % 4
		case 3:
			p.Turn = (p.Turn + 3) % 4
		}
	}
	return p
}

// TestStraightPlans compares straight plans with what single steps and quarters lead to.
func TestStraightPlans(t *testing.T) {
	r := dice()
	seen := map[api.Errno]int{}
	for range 1000 {
		c := move.Case{Low: at(-99, -9, -9), High: at(99, 9, 9), Shift: between(r, 0, 8), Turn: between(r, 0, 2)}
		for i := range between(r, 1, 4) {
			// Each tooth has a height of its own, so that none is in the way.
			place := func() move.Place { return to(between(r, -6, 6), between(r, -6, 6), 2*i+r.IntN(2), r.IntN(4)) }
			c.Teeth = append(c.Teeth, one(string(rune('a'+i)), place(), place()))
			if r.IntN(6) == 0 {
				c.Teeth[i].To = c.Teeth[i].From
			}
		}
		p, e := move.Straight(c)
		bound, errorOfBound := move.Bound(c)
		same(t, "both errors", e, errorOfBound)
		seen[e]++
		cannot := slices.ContainsFunc(c.Teeth, func(tooth move.Tooth) bool {
			steps, quarters := way(tooth.From, tooth.To)
			return steps > 0 && c.Shift == 0 || quarters > 0 && c.Turn == 0
		})
		if cannot {
			refused(t, "Straight of what is not permitted", p, e, api.ErrInfeasible)
			continue
		}
		wanted := plan{fromOf(c)}
		for s := wanted[0]; !slices.Equal(s, toOf(c)); wanted = append(wanted, s) {
			i := -1
			s = made(s, func(p move.Place) move.Place {
				i++
				return next(c, p, c.Teeth[i].To)
			})
		}
		same(t, "Straight", p, wanted)
		same(t, "Bound", bound, len(wanted)-1)
	}
	if seen[api.OK] < 100 || seen[api.ErrInfeasible] < 100 {
		t.Errorf("seen: %v", seen)
	}
}
