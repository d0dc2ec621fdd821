package move

import (
	"iter"

	"cusp/api"
)

// stage is a stage of a plan: its number, and the states from which and to which it leads.
type stage struct {
	number   int
	from, to []Place
}

// stagesOf visits the stages of a plan.
func stagesOf(plan [][]Place) iter.Seq[stage] {
	return func(yield func(stage) bool) {
		for n := 1; n < len(plan); n++ {
			if !yield(stage{n, plan[n-1], plan[n]}) {
				return
			}
		}
	}
}

// accepted returns the bench of a case for which a plan is accepted, or the first error of both.
func accepted(c Case, plan [][]Place) (bench, api.Errno) {
	b, e := benchOf(c)
	if e != api.OK {
		return bench{}, e
	}
	if _, e := b.checkPlan(plan); e != api.OK {
		return bench{}, e
	}
	return b, api.OK
}

// Attachments returns for each tooth the first and the last stage in which it turns, 0 and 0 if it never does.
func Attachments(c Case, plan [][]Place) ([][2]int, api.Errno) {
	if _, e := accepted(c, plan); e != api.OK {
		return nil, e
	}
	l := make([][2]int, len(c.Teeth))
	for s := range stagesOf(plan) {
		for tooth := range l {
			if s.from[tooth].Turn == s.to[tooth].Turn {
				continue
			}
			if l[tooth][0] == 0 {
				l[tooth][0] = s.number
			}
			l[tooth][1] = s.number
		}
	}
	return l, api.OK
}

// Tight returns the states and pairs of teeth that are as near in them as permitted.
func Tight(c Case, plan [][]Place) ([][3]int, api.Errno) {
	on, e := accepted(c, plan)
	if e != api.OK {
		return nil, e
	}
	var l [][3]int
	for n, s := range plan {
		for a, b := range c.pairs() {
			if on.apart(s, a, b) == c.Gap+1 {
				l = append(l, [3]int{n, a, b})
			}
		}
	}
	return l, api.OK
}

// Travel returns for each tooth the sums of its steps and of its quarters in all stages.
func Travel(c Case, plan [][]Place) ([][2]int, api.Errno) {
	if _, e := accepted(c, plan); e != api.OK {
		return nil, e
	}
	l := make([][2]int, len(c.Teeth))
	for s := range stagesOf(plan) {
		for tooth := range l {
			steps, quarters := s.from[tooth].way(s.to[tooth])
			l[tooth][0] += steps
			l[tooth][1] += quarters
		}
	}
	return l, api.OK
}
