package move

import (
	"slices"

	"cusp/api"
)

// permits reports whether the rules of a stage permit to go from one valid state to another one.
func (c Case) permits(s, t []Place) bool {
	for i := range c.Teeth {
		steps, quarters := s[i].way(t[i])
		if steps > c.Shift || quarters > c.Turn || c.Teeth[i].Fixed && s[i] != t[i] {
			return false
		}
	}
	return true
}

// checkOf returns the first error of a state of a plan whose states before it have none, or OK.
func (b bench) checkOf(plan [][]Place, n int) api.Errno {
	s := plan[n]
	if e := b.checkState(s); e != api.OK {
		return e
	}
	return first(
		when(n == 0 && !slices.Equal(s, b.from()), api.ErrState),
		when(n > 0 && !b.permits(plan[n-1], s), api.ErrRule),
		when(n == len(plan)-1 && !slices.Equal(s, b.to()), api.ErrState),
	)
}

// checkPlan returns the first error of a plan, and the number of the state that has it; 0 and OK for an accepted plan.
func (b bench) checkPlan(plan [][]Place) (int, api.Errno) {
	if e := first(when(len(plan) == 0, api.ErrEmpty), when(len(plan) > MaxPlan, api.ErrMany)); e != api.OK {
		return 0, e
	}
	for n := range plan {
		if e := b.checkOf(plan, n); e != api.OK {
			return n, e
		}
	}
	return 0, api.OK
}

// CheckStage returns the first error of a stage, or OK.
func CheckStage(c Case, s, t []Place) api.Errno {
	if _, e := benchWith(c, s, t); e != api.OK {
		return e
	}
	return when(!c.permits(s, t), api.ErrRule)
}

// CheckPlan returns the first error of a plan, and the number of the state that has it; 0 and OK for an accepted plan.
func CheckPlan(c Case, plan [][]Place) (int, api.Errno) {
	b, e := benchOf(c)
	if e != api.OK {
		return 0, e
	}
	return b.checkPlan(plan)
}

// stages returns how many stages a way needs of which each one does so much, or ErrInfeasible if they do nothing of it.
func stages(way, each int) (int, api.Errno) {
	if way == 0 {
		return 0, api.OK
	}
	if each == 0 {
		return 0, api.ErrInfeasible
	}
	return (way + each - 1) / each, api.OK
}

// bound returns the bound of a valid case, or ErrInfeasible if the rules do not permit what is to do.
func (c Case) bound() (int, api.Errno) {
	most := 0
	for _, t := range c.Teeth {
		steps, quarters := t.From.way(t.To)
		shifts, e := stages(steps, c.Shift)
		turns, f := stages(quarters, c.Turn)
		if e := first(e, f); e != api.OK {
			return 0, e
		}
		most = max(most, shifts, turns)
	}
	return most, api.OK
}

// Bound returns a number of stages below which no plan is accepted.
func Bound(c Case) (int, api.Errno) {
	if e := CheckCase(c); e != api.OK {
		return 0, e
	}
	return c.bound()
}

// Straight returns the plan in which each tooth goes straight.
func Straight(c Case) ([][]Place, api.Errno) {
	bound, e := Bound(c)
	if e := first(e, when(bound > MaxPlan-1, api.ErrMany)); e != api.OK {
		return nil, e
	}
	var plan [][]Place
	for n := range bound + 1 {
		plan = append(plan, listOf(c.Teeth, func(t Tooth) Place {
			return t.From.towards(t.To, n*c.Shift, n*c.Turn)
		}))
	}
	return plan, api.OK
}
