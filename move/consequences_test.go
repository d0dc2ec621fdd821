package move_test

import (
	"slices"
	"testing"

	"cusp/api"
	"cusp/move"
)

// accepted reports a plan that is not accepted.
func accepted(t *testing.T, what string, c move.Case, p plan) {
	t.Helper()
	n, e := move.CheckPlan(c, p)
	same(t, what, e, api.OK)
	same(t, "the number: "+what, n, 0)
}

// TestPlansBackAndInTheMirror: a plan backwards is accepted for the case backwards, a mirrored one for the mirrored case, and both are as far and as tight.
func TestPlansBackAndInTheMirror(t *testing.T) {
	r := dice()
	for range 500 {
		c, p := randomWalk(r)
		travel := fine[[][2]int](t)(move.Travel(c, p))
		tight := fine[[][3]int](t)(move.Tight(c, p))
		back, states := both(t)(move.Backwards(c, p))
		accepted(t, "backwards", back, states)
		same(t, "the way back", fine[[][2]int](t)(move.Travel(back, states)), travel)
		same(t, "as tight", len(fine[[][3]int](t)(move.Tight(back, states))), len(tight))
		image, states := both(t)(move.Mirrored(c, p))
		accepted(t, "mirrored", image, states)
		same(t, "the mirrored way", fine[[][2]int](t)(move.Travel(image, states)), travel)
		same(t, "mirrored, as tight", fine[[][3]int](t)(move.Tight(image, states)), tight)
		same(t, "mirrored, the turns", fine[[][2]int](t)(move.Attachments(image, states)), fine[[][2]int](t)(move.Attachments(c, p)))
		again, twice := both(t)(move.Backwards(both(t)(move.Backwards(c, p))))
		same(t, "there and back again", again, c)
		same(t, "its plan", twice, p)
	}
}

// TestPlanOrProof: there is a shortest plan, or states that prove that there is none, never both; backwards and mirrored it is the same.
func TestPlanOrProof(t *testing.T) {
	for _, s := range solvedCases() {
		back, _ := both(t)(move.Backwards(s.c, nil))
		image, _ := both(t)(move.Mirrored(s.c, nil))
		reach, held := fine[int](t)(move.Reach(s.c)), fine[[]int](t)(move.Held(s.c))
		same(t, "Reach of the mirrored case", fine[int](t)(move.Reach(image)), reach)
		same(t, "Held of the mirrored case", fine[[]int](t)(move.Held(image)), held)
		p, e := move.Shortest(s.c)
		there, errorOfBack := move.Shortest(back)
		mirrored, errorOfImage := move.Shortest(image)
		same(t, "a plan backwards", errorOfBack, e)
		same(t, "a mirrored plan", errorOfImage, e)
		same(t, "its states", len(there), len(p))
		same(t, "its mirrored states", len(mirrored), len(p))
		states, errorOfRefute := move.Refute(s.c)
		if e == api.OK {
			accepted(t, "Shortest", s.c, p)
			accepted(t, "Shortest backwards", back, there)
			refused(t, "Refute beside a plan", states, errorOfRefute, api.ErrNone)
			// From where the teeth go, all is reached to which they can go back.
			same(t, "Reach backwards", fine[int](t)(move.Reach(back)), reach)
			same(t, "no proof of what can be reached", move.CheckRefute(s.c, s.reached()), api.ErrProof)
			continue
		}
		same(t, "no plan", e, api.ErrInfeasible)
		same(t, "Refute", errorOfRefute, api.OK)
		same(t, "its states", len(states), reach)
		same(t, "CheckRefute", move.CheckRefute(s.c, states), api.OK)
		other := fine[plan](t)(move.Refute(back))
		same(t, "CheckRefute backwards", move.CheckRefute(back, other), api.OK)
		same(t, "no proof the other way round", move.CheckRefute(back, states), api.ErrProof)
	}
}

// TestNoFewerStages: no accepted plan has fewer stages than the bound, or than the shortest one; and a straight plan that is accepted has no more.
func TestNoFewerStages(t *testing.T) {
	r := dice()
	small, straight := 0, 0
	for range 600 {
		c, p := randomWalk(r)
		bound := fine[int](t)(move.Bound(c))
		if len(p)-1 < bound {
			t.Errorf("%d stages, but the bound %d", len(p)-1, bound)
		}
		shortest, e := move.Shortest(c)
		if e == api.ErrLimit {
			continue
		}
		small++
		same(t, "Shortest of a case with a plan", e, api.OK)
		if len(shortest)-1 < bound || len(shortest) > len(p) {
			t.Errorf("%d states, at least %d, at most %d", len(shortest), bound+1, len(p))
		}
		direct := fine[plan](t)(move.Straight(c))
		if _, e := move.CheckPlan(c, direct); e == api.OK {
			straight++
			same(t, "as many states", len(direct), len(shortest))
			if comparePlans(shortest, direct) > 0 {
				t.Errorf("the straight plan is before the shortest one: %v", c)
			}
		}
	}
	if small < 100 || straight < 50 {
		t.Errorf("seen: %d, %d", small, straight)
	}
}

// TestPlansThatStayAccepted: cells less, a larger box, and rules that permit more leave a plan accepted.
func TestPlansThatStayAccepted(t *testing.T) {
	r := dice()
	stripped := 0
	for range 500 {
		c, p := randomWalk(r)
		for i, tooth := range c.Teeth {
			cells := slices.DeleteFunc(slices.Clone(tooth.Cells), func(api.Cell) bool { return r.IntN(2) == 0 })
			if len(cells) < len(tooth.Cells) {
				stripped += len(cells)
				less := fine[move.Case](t)(move.Strip(c, i, cells))
				same(t, "the cells that are left", len(less.Teeth[i].Cells), len(tooth.Cells)-len(cells))
				accepted(t, "cells less", less, p)
			}
		}
		for _, change := range []func(c *move.Case){
			func(c *move.Case) { c.Low = plus(c.Low, at(-r.IntN(3), -r.IntN(3), -r.IntN(3))) },
			func(c *move.Case) { c.High = plus(c.High, at(r.IntN(3), r.IntN(3), r.IntN(3))) },
			func(c *move.Case) { c.Shift = between(r, c.Shift, move.MaxShift) },
			func(c *move.Case) { c.Turn = between(r, c.Turn, 2) },
			func(c *move.Case) { c.Gap = between(r, 0, c.Gap) },
			func(c *move.Case) {
				for i := range c.Teeth {
					c.Teeth[i].Fixed = false
				}
			},
		} {
			wide := copied(c)
			change(&wide)
			accepted(t, "more is permitted", wide, p)
		}
	}
	if stripped < 200 {
		t.Errorf("seen: %d", stripped)
	}
}

// TestHeldTeeth: a held tooth never moves in an accepted plan, and a tooth that is neither held nor fixed moves in one.
func TestHeldTeeth(t *testing.T) {
	r := dice()
	held := 0
	for range 600 {
		c, p := randomWalk(r)
		l, e := move.Held(c)
		if e == api.ErrLimit {
			continue
		}
		for _, i := range l {
			held++
			same(t, "a held tooth is not fixed", c.Teeth[i].Fixed, false)
			for _, s := range p {
				same(t, "the place of a held tooth", s[i], c.Teeth[i].From)
			}
		}
	}
	if held < 50 {
		t.Errorf("seen: %d", held)
	}
	for _, s := range solvedCases()[:80] {
		l := fine[[]int](t)(move.Held(s.c))
		for i, tooth := range s.c.Teeth {
			if tooth.Fixed || slices.Contains(l, i) {
				continue
			}
			// There is a plan to some state in which the tooth is elsewhere.
			n := slices.IndexFunc(s.plans, func(p plan) bool { return p[len(p)-1][i] != tooth.From })
			other := copied(s.c)
			for j := range other.Teeth {
				other.Teeth[j].To = s.plans[n][len(s.plans[n])-1][j]
			}
			same(t, "a plan in which it moves", fine[plan](t)(move.Shortest(other)), s.plans[n])
		}
	}
}

// TestTravelIsFarEnough: a tooth travels at least as far as from From to To.
func TestTravelIsFarEnough(t *testing.T) {
	r := dice()
	further := 0
	for range 500 {
		c, p := randomWalk(r)
		for i, far := range fine[[][2]int](t)(move.Travel(c, p)) {
			steps, quarters := way(c.Teeth[i].From, c.Teeth[i].To)
			if far[0] < steps || far[1] < quarters {
				t.Errorf("%v for %d and %d", far, steps, quarters)
			}
			if far[0] > steps {
				further++
			}
			if (far[0]-steps)%2 != 0 {
				t.Errorf("%v for %d: what is lost is come back", far, steps)
			}
		}
	}
	if further < 100 {
		t.Errorf("seen: %d", further)
	}
}
