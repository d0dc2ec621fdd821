package move_test

import (
	"slices"
	"testing"

	"cusp/api"
	"cusp/move"
)

// reports reports what is told of a plan that is not refused with an error.
func reports(t *testing.T, what string, c move.Case, p plan, wanted api.Errno) {
	t.Helper()
	l, e := move.Attachments(c, p)
	refused(t, "Attachments: "+what, l, e, wanted)
	tight, e := move.Tight(c, p)
	refused(t, "Tight: "+what, tight, e, wanted)
	l, e = move.Travel(c, p)
	refused(t, "Travel: "+what, l, e, wanted)
}

func TestErrorsOfReports(t *testing.T) {
	for _, f := range faultyCases() {
		for _, p := range []plan{nil, {nil}, make(plan, 201)} {
			reports(t, f.what, f.arg, p, f.e)
		}
	}
	p := planE()
	for _, f := range []faulty[plan]{
		{"no states", nil, api.ErrEmpty},
		{"201 states", append(many(199, p[0]), p[1:]...), api.ErrMany},
		{"201 faulty states", make(plan, 201), api.ErrMany},
		{"a place less", plan{p[0], {to(0, 0, 0)}, p[2]}, api.ErrShape},
		{"another first state", p[1:], api.ErrState},
		{"another last state", p[:2], api.ErrState},
		{"out of the box", plan{p[0], {to(4, 0, 0), to(1, 0, 0)}, p[2]}, api.ErrRange},
		{"a cell shared", plan{p[0], {to(1, 0, 0), to(1, 0, 0)}, p[2]}, api.ErrHit},
		{"a stage that is not permitted", plan{p[0], p[2]}, api.ErrRule},
	} {
		reports(t, f.what, caseE(), f.arg, f.e)
	}
	near := caseE(func(c *move.Case) { c.Gap, c.Teeth[0].To, c.Teeth[1].From = 1, to(3, 1, 0), to(2, 0, 0) })
	reports(t, "too near", near, plan{{to(0, 0, 0), to(2, 0, 0)}, {to(0, 0, 0), to(1, 0, 0)}}, api.ErrGap)
	reports(t, "no states without teeth", move.Case{}, nil, api.ErrEmpty)
}

func TestReportsOfTheChapter(t *testing.T) {
	same(t, "Tight", fine[[][3]int](t)(move.Tight(caseE(), planE())), [][3]int{{0, 0, 1}, {1, 0, 1}})
	same(t, "Travel", fine[[][2]int](t)(move.Travel(caseE(), planE())), [][2]int{{2, 0}, {1, 0}})
	same(t, "Attachments", fine[[][2]int](t)(move.Attachments(caseE(), planE())), [][2]int{{0, 0}, {0, 0}})
}

func TestReportsOfLittle(t *testing.T) {
	for _, p := range []plan{{{}}, {{}, {}}} {
		same(t, "Attachments of no teeth", fine[[][2]int](t)(move.Attachments(move.Case{}, p)), nil)
		same(t, "Tight of no teeth", fine[[][3]int](t)(move.Tight(move.Case{}, p)), nil)
		same(t, "Travel of no teeth", fine[[][2]int](t)(move.Travel(move.Case{}, p)), nil)
	}
	still := caseE(func(c *move.Case) { c.Teeth[0].To, c.Teeth[1].To = c.Teeth[0].From, c.Teeth[1].From })
	start := []move.Place{to(0, 0, 0), to(1, 0, 0)}
	same(t, "Attachments of one state", fine[[][2]int](t)(move.Attachments(still, plan{start})), [][2]int{{0, 0}, {0, 0}})
	same(t, "Tight of one state", fine[[][3]int](t)(move.Tight(still, plan{start})), [][3]int{{0, 0, 1}})
	same(t, "Travel of one state", fine[[][2]int](t)(move.Travel(still, plan{start})), [][2]int{{0, 0}, {0, 0}})
	same(t, "Tight of rest", fine[[][3]int](t)(move.Tight(still, plan{start, start})), [][3]int{{0, 0, 1}, {1, 0, 1}})
	// There and back is a way, too, though the tooth is where it was.
	same(t, "Travel there and back", fine[[][2]int](t)(move.Travel(still, plan{start, planE()[1], start})), [][2]int{{2, 0}, {2, 0}})
}

func TestAttachments(t *testing.T) {
	for _, f := range []struct {
		what   string
		turns  []int
		wanted [2]int
	}{
		{"in the first stage", []int{0, 1, 1}, [2]int{1, 1}},
		{"in the last stage", []int{2, 2, 3}, [2]int{2, 2}},
		{"in both", []int{3, 0, 1}, [2]int{1, 2}},
		{"with a rest between", []int{1, 1, 0, 0, 3, 3}, [2]int{2, 4}},
		{"there and back", []int{1, 1, 2, 1, 1}, [2]int{2, 3}},
		{"never", []int{3, 3, 3, 3}, [2]int{}},
	} {
		last := len(f.turns) - 1
		c := alone(at(0, 0, 0), at(9, 0, 0), one("a", to(0, 0, 0, f.turns[0]), to(0, 0, 0, f.turns[last])))
		c.Teeth = append(c.Teeth, one("b", to(2, 0, 0), to(2+last, 0, 0)))
		n := -1
		p := made(f.turns, func(turn int) []move.Place {
			n++
			return []move.Place{to(0, 0, 0, turn), to(2+n, 0, 0)}
		})
		same(t, "Attachments: "+f.what, fine[[][2]int](t)(move.Attachments(c, p)), [][2]int{f.wanted, {0, 0}})
	}
}

func TestTight(t *testing.T) {
	c := move.Case{High: at(40, 9, 9), Shift: 8, Gap: 3, Teeth: []move.Tooth{one("a", to(0, 0, 0), to(0, 0, 0)), one("b", to(8, 0, 0), to(4, 0, 0)), one("c", to(4, 0, 0), to(8, 0, 0)), fixed("d", to(30, 0, 0))}}
	p := plan{
		{to(0, 0, 0), to(8, 0, 0), to(4, 0, 0), to(30, 0, 0)},
		{to(0, 0, 0), to(2, 2, 0), to(6, 1, 1), to(30, 0, 0)},
		{to(0, 0, 0), to(4, 0, 0), to(8, 0, 0), to(30, 0, 0)},
	}
	same(t, "Tight", fine[[][3]int](t)(move.Tight(c, p)), [][3]int{{0, 0, 2}, {0, 1, 2}, {1, 0, 1}, {2, 0, 1}, {2, 1, 2}})
	c.Gap = 2
	same(t, "with a gap that is less", fine[[][3]int](t)(move.Tight(c, p)), nil)
}

// TestReports compares what is told of accepted plans with the definitions.
func TestReports(t *testing.T) {
	r := dice()
	turning, tight := 0, 0
	for range 1000 {
		c, p := randomWalk(r)
		attachments, travel := make([][2]int, len(c.Teeth)), make([][2]int, len(c.Teeth))
		for i := range c.Teeth {
			var turns []int
			for n := 1; n < len(p); n++ {
				steps, quarters := way(p[n-1][i], p[n][i])
				travel[i][0] += steps
				travel[i][1] += quarters
				if quarters > 0 {
					turns = append(turns, n)
				}
			}
			if len(turns) > 0 {
				attachments[i] = [2]int{slices.Min(turns), slices.Max(turns)}
				turning++
			}
		}
		var near [][3]int
		for n, s := range p {
			for i := range c.Teeth {
				for j := i + 1; j < len(c.Teeth); j++ {
					if apart(cellsOf(c.Teeth[i], s[i]), cellsOf(c.Teeth[j], s[j])) == c.Gap+1 {
						near = append(near, [3]int{n, i, j})
						tight++
					}
				}
			}
		}
		before, states := copied(c), copiedPlan(p)
		same(t, "Attachments", fine[[][2]int](t)(move.Attachments(c, p)), attachments)
		same(t, "Tight", fine[[][3]int](t)(move.Tight(c, p)), near)
		same(t, "Travel", fine[[][2]int](t)(move.Travel(c, p)), travel)
		same(t, "the case afterwards", c, before)
		same(t, "the plan afterwards", p, states)
	}
	if turning < 200 || tight < 200 {
		t.Errorf("seen: %d, %d", turning, tight)
	}
}
