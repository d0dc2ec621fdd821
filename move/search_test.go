package move_test

import (
	"slices"
	"testing"

	"cusp/api"
	"cusp/move"
)

// searches reports results of searches that are not refused with an error.
func searches(t *testing.T, what string, c move.Case, wanted api.Errno) {
	t.Helper()
	p, e := move.Shortest(c)
	refused(t, "Shortest: "+what, p, e, wanted)
	n, e := move.Reach(c)
	refused(t, "Reach: "+what, n, e, wanted)
	p, e = move.Refute(c)
	refused(t, "Refute: "+what, p, e, wanted)
	l, e := move.Held(c)
	refused(t, "Held: "+what, l, e, wanted)
	for _, states := range []plan{nil, {nil}, make(plan, 4097)} {
		same(t, "CheckRefute: "+what, move.CheckRefute(c, states), wanted)
	}
}

func TestErrorsOfSearches(t *testing.T) {
	for _, f := range faultyCases() {
		searches(t, f.what, f.arg, f.e)
	}
	all := move.Case{Low: at(-1000, -1000, -1000), High: at(1000, 1000, 1000), Turn: 1}
	for i := range 16 {
		all.Teeth = append(all.Teeth, one(string(rune('a'+i)), to(i, 0, 0), to(0, i, 0)))
		searches(t, "the greatest box", all, api.ErrLimit)
	}
}

// tall returns a case in which nothing moves, of a tooth with some height and of one that has 241 places.
func tall(height int) move.Case {
	return move.Case{High: at(0, 1, 240), Teeth: []move.Tooth{
		{Name: "a", Cells: append(row(height), at(0, 1, 0))},
		{Name: "b", Cells: []api.Cell{at(0, 0, 0), at(0, 1, 0)}, From: to(0, 0, 240), To: to(0, 0, 240)},
	}}
}

// TestSmallCases: of 4096 places and products a case is small, of more it is not.
func TestSmallCases(t *testing.T) {
	tooth := one("a", to(0, 0, 0), to(0, 0, 0))
	pair := []move.Tooth{tooth, one("b", to(1, 0, 0), to(1, 0, 0))}
	long := move.Tooth{Name: "a", Cells: row(1000)}
	for _, f := range []struct {
		what    string
		c       move.Case
		isSmall bool
		reach   int
	}{
		{"one tooth in 16 by 16 by 16", move.Case{High: at(15, 15, 15), Shift: 8, Teeth: []move.Tooth{tooth}}, true, 4096},
		{"one tooth in 241 by 17", move.Case{High: at(240, 16, 0), Teeth: []move.Tooth{tooth}}, false, 0},
		{"one tooth with turns in 1024", move.Case{High: at(31, 31, 0), Turn: 2, Teeth: []move.Tooth{tooth}}, true, 4},
		{"one tooth with turns in 1025", move.Case{High: at(24, 40, 0), Turn: 1, Teeth: []move.Tooth{tooth}}, false, 0},
		{"one tooth without turns in 1025", move.Case{High: at(24, 40, 0), Shift: 1, Teeth: []move.Tooth{tooth}}, true, 1025},
		{"two teeth in 64", move.Case{High: at(63, 0, 0), Teeth: pair}, true, 1},
		{"two teeth in 65", move.Case{High: at(64, 0, 0), Teeth: pair}, false, 0},
		{"two teeth, one of them fixed, in 2000", move.Case{Low: at(-999, 0, 0), High: at(1000, 0, 0), Shift: 2, Teeth: []move.Tooth{tooth, fixed("b", to(1, 0, 0))}}, true, 1999},
		{"fixed teeth alone in the greatest box", move.Case{High: at(1000, 1000, 1000), Turn: 2, Shift: 8, Teeth: []move.Tooth{fixed("a", to(0, 0, 0)), fixed("b", to(1, 0, 0))}}, true, 1},
		{"a long tooth with two heights", move.Case{High: at(0, 0, 1000), Shift: 1, Turn: 1, Teeth: []move.Tooth{long}}, true, 8},
		{"shifts that are in the grid alone", move.Case{High: at(1000, 0, 0), Shift: 8, Teeth: []move.Tooth{{Name: "a", Cells: []api.Cell{at(-1000, 0, 0)}, From: to(1000, 0, 0), To: to(1000, 0, 0)}}}, true, 1},
		{"shifts that are in the grid alone, from the other side", move.Case{Low: at(-1000, -1000, -1000), High: at(1000, 1000, 1000), Shift: 8, Teeth: []move.Tooth{{Name: "a", Cells: []api.Cell{at(997, 999, 998)}, From: to(0, 0, 0), To: to(0, 0, 0)}}}, false, 0},
		{"a few shifts in the greatest box", move.Case{Low: at(-1000, -1000, -1000), High: at(-998, -999, -1000), Shift: 8, Teeth: []move.Tooth{{Name: "a", Cells: []api.Cell{at(1, 1, 0)}, From: to(-1000, -1000, -1000), To: to(-999, -1000, -1000)}}}, true, 2},
		{"two shifts that are in the grid, along X", move.Case{High: at(1000, 0, 0), Shift: 1, Teeth: []move.Tooth{{Name: "a", Cells: []api.Cell{at(-999, 0, 0)}, From: to(1000, 0, 0), To: to(999, 0, 0)}}}, true, 2},
		{"two shifts that are in the grid, along Y", move.Case{High: at(0, 1000, 0), Shift: 1, Teeth: []move.Tooth{{Name: "a", Cells: []api.Cell{at(0, -999, 0)}, From: to(0, 1000, 0), To: to(0, 999, 0)}}}, true, 2},
		{"two shifts that are in the grid, along Z", move.Case{High: at(0, 0, 1000), Shift: 1, Teeth: []move.Tooth{{Name: "a", Cells: []api.Cell{at(0, 0, -999)}, From: to(0, 0, 1000), To: to(0, 0, 999)}}}, true, 2},
		{"two teeth with 17 and 241 places", tall(225), false, 0},
		{"two teeth with 16 and 241 places", tall(226), true, 1},
		{"the turn of From, if none is permitted", move.Case{High: at(9, 0, 1), Shift: 1, Teeth: []move.Tooth{{Name: "a", Cells: []api.Cell{at(0, 0, 0), at(1, 0, 0)}, From: to(1, 0, 0, 2), To: to(0, 0, 0)}}}, true, 18},
		{"no teeth", move.Case{}, true, 1},
	} {
		if !f.isSmall {
			searches(t, f.what, f.c, api.ErrLimit)
			continue
		}
		same(t, "Reach: "+f.what, fine[int](t)(move.Reach(f.c)), f.reach)
	}
}

func TestSearchesOfTheChapter(t *testing.T) {
	same(t, "Shortest", fine[plan](t)(move.Shortest(caseE())), planE())
	start := []move.Place{to(0, 0, 0), to(1, 0, 0)}
	same(t, "Reach of F", fine[int](t)(move.Reach(caseF(1))), 1)
	same(t, "Refute of F", fine[plan](t)(move.Refute(caseF(1))), plan{start})
	same(t, "CheckRefute of F", move.CheckRefute(caseF(1), plan{start}), api.OK)
	same(t, "Held of F", fine[[]int](t)(move.Held(caseF(1))), []int{0})
	p, e := move.Shortest(caseF(1))
	refused(t, "Shortest of F", p, e, api.ErrInfeasible)
	same(t, "Shortest with a greater shift", fine[plan](t)(move.Shortest(caseF(2))), plan{start, {to(2, 0, 0), to(1, 0, 0)}})
	p, e = move.Refute(caseF(2))
	refused(t, "Refute with a greater shift", p, e, api.ErrNone)
	same(t, "Held with a greater shift", fine[[]int](t)(move.Held(caseF(2))), nil)
}

func TestSearchesOfLittle(t *testing.T) {
	same(t, "no teeth", fine[plan](t)(move.Shortest(move.Case{})), plan{{}})
	same(t, "no teeth are held", fine[[]int](t)(move.Held(move.Case{})), nil)
	p, e := move.Refute(move.Case{})
	refused(t, "no teeth are refuted", p, e, api.ErrNone)
	same(t, "no proof without teeth", move.CheckRefute(move.Case{}, plan{{}}), api.ErrProof)
	still := alone(at(0, 0, 0), at(2, 0, 0), one("a", to(1, 0, 0), to(1, 0, 0)))
	same(t, "nothing to do", fine[plan](t)(move.Shortest(still)), plan{{to(1, 0, 0)}})
	still.Shift, still.Turn = 0, 0
	same(t, "nothing permitted", fine[[]int](t)(move.Held(still)), []int{0})
	// A tooth that is round is another one when it is turned.
	turning := alone(at(0, 0, 0), at(0, 0, 0), one("a", to(0, 0, 0, 3), to(0, 0, 0, 1)))
	same(t, "of two ways round the first one", fine[plan](t)(move.Shortest(turning)), plan{{to(0, 0, 0, 3)}, {to(0, 0, 0)}, {to(0, 0, 0, 1)}})
	turning.Teeth[0].From, turning.Teeth[0].To = to(0, 0, 0, 1), to(0, 0, 0, 3)
	same(t, "of two ways round back the first one", fine[plan](t)(move.Shortest(turning)), plan{{to(0, 0, 0, 1)}, {to(0, 0, 0)}, {to(0, 0, 0, 3)}})
	same(t, "a tooth that turns is not held", fine[[]int](t)(move.Held(turning)), nil)
	turning.Turn = 0
	p, e = move.Shortest(turning)
	refused(t, "no turns", p, e, api.ErrInfeasible)
	same(t, "the proof of it", fine[plan](t)(move.Refute(turning)), plan{{to(0, 0, 0, 1)}})
	turning.Teeth = append(turning.Teeth, one("b", to(1, 0, 0), to(1, 0, 0)), fixed("c", to(2, 0, 0)))
	turning.High, turning.Shift = at(2, 0, 0), 0
	same(t, "only teeth that are not fixed are held", fine[[]int](t)(move.Held(turning)), []int{0, 1})
}

// TestLongPlans: a shortest plan may have more states than a plan that is checked.
func TestLongPlans(t *testing.T) {
	c := alone(at(-1000, 0, 0), at(1000, 1, 0), one("a", to(1000, 1, 0), to(-1000, 0, 0)))
	c.Turn = 0
	p := fine[plan](t)(move.Shortest(c))
	same(t, "its states", len(p), 2002)
	for n, s := range p {
		// The first one of these plans goes along X as long as it can: less comes first.
		wanted := to(1000-n, 1, 0)
		if n == 2001 {
			wanted = to(-1000, 0, 0)
		}
		same(t, "a state", s, []move.Place{wanted})
	}
	n, e := move.CheckPlan(c, p)
	refused(t, "CheckPlan", n, e, api.ErrMany)
	c.High = at(1000, 1, 0)
	c.Low = at(801, 0, 0)
	c.Teeth[0].To = to(801, 1, 0)
	p = fine[plan](t)(move.Shortest(c))
	same(t, "as many states as are checked", len(p), 200)
	n, e = move.CheckPlan(c, p)
	refused(t, "CheckPlan of them", n, e, api.OK)
}

// TestSearches compares searches with the definitions.
func TestSearches(t *testing.T) {
	with, without, held := 0, 0, 0
	for _, s := range solvedCases() {
		same(t, "Reach", fine[int](t)(move.Reach(s.c)), len(s.plans))
		var stay []int
		for i, tooth := range s.c.Teeth {
			moves := slices.ContainsFunc(s.reached(), func(l []move.Place) bool { return l[i] != tooth.From })
			if !tooth.Fixed && !moves {
				stay = append(stay, i)
				held++
			}
		}
		same(t, "Held", fine[[]int](t)(move.Held(s.c)), stay)
		p, e := move.Shortest(s.c)
		states, errorOfRefute := move.Refute(s.c)
		if wanted := s.shortest(); wanted != nil {
			with++
			same(t, "Shortest", p, wanted)
			same(t, "its error", e, api.OK)
			refused(t, "Refute", states, errorOfRefute, api.ErrNone)
			continue
		}
		without++
		refused(t, "Shortest", p, e, api.ErrInfeasible)
		same(t, "Refute", states, s.reached())
		same(t, "its error", errorOfRefute, api.OK)
	}
	if with < 50 || without < 50 || held < 50 {
		t.Errorf("seen: %d, %d, %d", with, without, held)
	}
}

// proves reports whether ascending valid states prove that there is no plan, by the definition.
func proves(s solved, states plan) bool {
	has := func(l []move.Place) bool {
		return slices.ContainsFunc(states, func(m []move.Place) bool { return slices.Equal(l, m) })
	}
	leads := func(l []move.Place) bool {
		return slices.ContainsFunc(s.states, func(m []move.Place) bool { return !has(m) && isStage(s.c, l, m) })
	}
	return has(fromOf(s.c)) && !has(toOf(s.c)) && !slices.ContainsFunc(states, leads)
}

// TestProofs compares what proofs prove with the definition: sets of states with and without some.
func TestProofs(t *testing.T) {
	r := dice()
	seen := map[api.Errno]int{}
	for _, s := range solvedCases() {
		for range 4 {
			states := s.reached()
			if r.IntN(2) == 0 {
				// More states than those that can be reached may be proof, too.
				more := made(plansOf(s.c, s.states), func(p plan) []move.Place { return p[len(p)-1] })
				if start := s.states[r.IntN(len(s.states))]; r.IntN(2) == 0 {
					other := copied(s.c)
					for i := range other.Teeth {
						other.Teeth[i].From = start[i]
					}
					more = made(plansOf(other, s.states), func(p plan) []move.Place { return p[len(p)-1] })
				}
				states = append(states, more...)
				slices.SortFunc(states, compareStates)
				states = slices.CompactFunc(states, slices.Equal)
			}
			if r.IntN(3) == 0 {
				states = slices.DeleteFunc(states, func([]move.Place) bool { return r.IntN(len(states)) == 0 })
			}
			wanted := api.OK
			if !proves(s, states) {
				wanted = api.ErrProof
			}
			seen[wanted]++
			same(t, "CheckRefute", move.CheckRefute(s.c, states), wanted)
		}
	}
	if seen[api.OK] < 100 || seen[api.ErrProof] < 100 {
		t.Errorf("seen: %v", seen)
	}
}

func TestCheckRefute(t *testing.T) {
	start := []move.Place{to(0, 0, 0), to(1, 0, 0)}
	wanted := []move.Place{to(2, 0, 0), to(1, 0, 0)}
	// None of these states can be reached, and no stage leads from them to a state of the search.
	turned := []move.Place{to(0, 0, 0, 1), to(1, 0, 0)}
	elsewhere := []move.Place{to(0, 0, 0), to(2, 0, 0)}
	far := []move.Place{to(2, 0, 0), to(0, 0, 0)}
	for _, f := range []struct {
		what   string
		shift  int
		states plan
		e      api.Errno
	}{
		{"the start alone", 1, plan{start}, api.OK},
		{"the start alone with a greater shift", 2, plan{start}, api.ErrProof},
		{"states of no search, too", 1, plan{start, elsewhere, turned, far}, api.OK},
		{"states of no search alone", 1, plan{elsewhere, turned, far}, api.ErrProof},
		{"no states", 1, nil, api.ErrProof},
		{"the wanted state, too", 1, plan{start, wanted}, api.ErrProof},
		{"the wanted state alone", 1, plan{wanted}, api.ErrProof},
		{"a wrong order", 1, plan{turned, start}, api.ErrOrder},
		{"a wrong order of the second tooth", 1, plan{elsewhere, start}, api.ErrOrder},
		{"a wrong order of turns", 1, plan{turned, elsewhere}, api.ErrOrder},
		{"a state twice", 1, plan{start, start}, api.ErrOrder},
		{"a place less", 1, plan{start, {to(0, 0, 0)}}, api.ErrShape},
		{"a hit before a wrong order", 1, plan{turned, {to(0, 0, 0), to(0, 0, 0)}}, api.ErrHit},
		{"a wrong order before a hit", 1, plan{turned, start, {to(0, 0, 0), to(0, 0, 0)}}, api.ErrOrder},
		{"out of the box", 1, plan{start, {to(3, 0, 0), to(1, 0, 0)}}, api.ErrRange},
		{"no place", 1, plan{start, {to(2, 0, 0), to(1, 0, 0, 4)}}, api.ErrRange},
		{"as many states as there may be", 1, many(4096, start), api.ErrOrder},
		{"too many states", 1, many(4097, start), api.ErrMany},
		{"too many faulty states", 1, make(plan, 4097), api.ErrMany},
	} {
		same(t, "CheckRefute: "+f.what, move.CheckRefute(caseF(f.shift), f.states), f.e)
	}
	near := caseE(func(c *move.Case) { c.Gap, c.Teeth = 1, caseF(1).Teeth })
	near.Teeth[1] = fixed("b", to(3, 1, 0))
	same(t, "too near", move.CheckRefute(near, plan{{to(2, 1, 0), to(3, 1, 0)}}), api.ErrGap)
	// A proof may have as many states as a search.
	full := alone(at(0, 0, 0), at(15, 15, 15), one("a", to(0, 0, 0), to(15, 15, 15)))
	full.Shift, full.Turn = 0, 0
	all := made(block(at(0, 0, 0), at(15, 15, 15)), func(c api.Cell) []move.Place { return []move.Place{{At: c}} })
	same(t, "all states but the wanted one", move.CheckRefute(full, all[:4095]), api.OK)
	same(t, "all states", move.CheckRefute(full, all), api.ErrProof)
}

// TestMemoryOfSearches: searches do not change the case, and what one of them answers does not change the next one.
func TestMemoryOfSearches(t *testing.T) {
	for _, s := range solvedCases()[:30] {
		before := copied(s.c)
		for range 2 {
			if p, e := move.Shortest(s.c); e == api.OK {
				same(t, "Shortest", p, s.shortest())
				for _, l := range p {
					clear(l)
				}
			}
			if p, e := move.Refute(s.c); e == api.OK {
				same(t, "Refute", p, s.reached())
				proof := copiedPlan(p)
				same(t, "CheckRefute", move.CheckRefute(s.c, p), api.OK)
				same(t, "the proof afterwards", p, proof)
				for n, l := range p {
					clear(l)
					same(t, "the rest of the proof", p[n+1:], proof[n+1:])
				}
			}
			same(t, "the case afterwards", s.c, before)
		}
	}
}
