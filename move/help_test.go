package move_test

import (
	"cmp"
	"fmt"
	"math/rand/v2"
	"reflect"
	"slices"
	"sync"
	"testing"

	"cusp/api"
	"cusp/move"
)

const (
	least    = -1 << 63
	greatest = 1<<63 - 1
)

// plan is a list of states.
type plan = [][]move.Place

// plain returns a value with nil for an empty list: both are the same.
func plain(v any) any {
	switch x := v.(type) {
	case []int:
		return none(x)
	case []api.Cell:
		return none(x)
	case [][2]int:
		return none(x)
	case [][3]int:
		return none(x)
	case plan:
		return none(made(x, none[move.Place]))
	case move.Case:
		x.Teeth = none(made(x.Teeth, func(t move.Tooth) move.Tooth {
			t.Cells = none(t.Cells)
			return t
		}))
		return x
	}
	return v
}

func none[T any](l []T) []T {
	if len(l) == 0 {
		return nil
	}
	return l
}

// made returns the list of what is made from the elements of a list.
func made[T, U any](l []T, from func(T) U) []U {
	var out []U
	for _, x := range l {
		out = append(out, from(x))
	}
	return out
}

// same reports a result that is not the wanted one; nil and empty lists are equal.
func same[T any](t *testing.T, what string, got, wanted T) {
	t.Helper()
	if !reflect.DeepEqual(plain(got), plain(wanted)) {
		t.Errorf("%s: got %s, want %s", what, short(got), short(wanted))
	}
}

// short returns the beginning of a text for a value: some texts have thousands of bytes.
func short(v any) string {
	s := fmt.Sprintf("%+v", v)
	return s[:min(len(s), 400)]
}

// refused reports another error than the wanted one, and a result beside it.
func refused[T any](t *testing.T, what string, got T, e, wanted api.Errno) {
	t.Helper()
	same(t, what, e, wanted)
	if v := plain(got); v != nil && !reflect.ValueOf(v).IsZero() {
		t.Errorf("%s: got %s beside an error", what, short(got))
	}
}

// fine returns a result, and reports its error.
func fine[T any](t *testing.T) func(T, api.Errno) T {
	return func(got T, e api.Errno) T {
		t.Helper()
		if e != api.OK {
			t.Errorf("error %d of what is right", e)
		}
		return got
	}
}

// both returns a case and a plan, and reports their error.
func both(t *testing.T) func(move.Case, plan, api.Errno) (move.Case, plan) {
	return func(c move.Case, p plan, e api.Errno) (move.Case, plan) {
		t.Helper()
		same(t, "the error of what is right", e, api.OK)
		return c, p
	}
}

func at(x, y, z int) api.Cell { return api.Cell{X: x, Y: y, Z: z} }

// to returns a place with a shift alone, or with a turn, too.
func to(x, y, z int, turn ...int) move.Place {
	p := move.Place{At: at(x, y, z)}
	if len(turn) > 0 {
		p.Turn = turn[0]
	}
	return p
}

func plus(a, b api.Cell) api.Cell { return at(a.X+b.X, a.Y+b.Y, a.Z+b.Z) }

func compare(a, b api.Cell) int {
	return cmp.Or(cmp.Compare(a.X, b.X), cmp.Compare(a.Y, b.Y), cmp.Compare(a.Z, b.Z))
}

// setOf returns the set of some cells.
func setOf(cells ...api.Cell) []api.Cell {
	l := slices.Clone(cells)
	slices.SortFunc(l, compare)
	return slices.Compact(l)
}

// block returns the cells of a box.
func block(low, high api.Cell) []api.Cell {
	var l []api.Cell
	for x := low.X; x <= high.X; x++ {
		for y := low.Y; y <= high.Y; y++ {
			for z := low.Z; z <= high.Z; z++ {
				l = append(l, at(x, y, z))
			}
		}
	}
	return l
}

// row returns n cells of rows along Z, from 0 on.
func row(n int) []api.Cell {
	var l []api.Cell
	for i := range n {
		l = append(l, at(i/1000, 0, i%1000))
	}
	return l
}

// many returns a list of n same elements.
func many[T any](n int, x T) []T { return slices.Repeat([]T{x}, n) }

func dice() *rand.Rand { return rand.New(rand.NewPCG(71, 73)) }

// between returns a number from low to high.
func between(r *rand.Rand, low, high int) int { return low + r.IntN(high-low+1) }

// randomSet returns a set of 1 to n cells of a box.
func randomSet(r *rand.Rand, n int, low, high api.Cell) []api.Cell {
	var l []api.Cell
	for range between(r, 1, n) {
		l = append(l, at(between(r, low.X, high.X), between(r, low.Y, high.Y), between(r, low.Z, high.Z)))
	}
	return setOf(l...)
}

// one returns a tooth with the one cell 0 0 0.
func one(name string, from, to move.Place) move.Tooth {
	return move.Tooth{Name: name, Cells: []api.Cell{at(0, 0, 0)}, From: from, To: to}
}

// fixed returns a fixed tooth with the one cell 0 0 0.
func fixed(name string, where move.Place) move.Tooth {
	tooth := one(name, where, where)
	tooth.Fixed = true
	return tooth
}

// caseE returns the case E of the chapter with changes.
func caseE(change ...func(c *move.Case)) move.Case {
	c := move.Case{High: at(3, 1, 0), Shift: 1, Teeth: []move.Tooth{one("a", to(0, 0, 0), to(2, 0, 0)), one("b", to(1, 0, 0), to(0, 0, 0))}}
	for _, f := range change {
		f(&c)
	}
	return c
}

// planE returns the straight plan of E.
func planE() plan {
	return plan{{to(0, 0, 0), to(1, 0, 0)}, {to(1, 0, 0), to(0, 0, 0)}, {to(2, 0, 0), to(0, 0, 0)}}
}

// caseF returns the case F of the chapter, with another shift.
func caseF(shift int) move.Case {
	return move.Case{High: at(2, 0, 0), Shift: shift, Teeth: []move.Tooth{one("a", to(0, 0, 0), to(2, 0, 0)), fixed("b", to(1, 0, 0))}}
}

// alone returns a case of one tooth in the box from low to high.
func alone(low, high api.Cell, tooth move.Tooth) move.Case {
	return move.Case{Low: low, High: high, Shift: 1, Turn: 1, Teeth: []move.Tooth{tooth}}
}

// copied returns a case in new memory.
func copied(c move.Case) move.Case {
	c.Teeth = made(c.Teeth, func(t move.Tooth) move.Tooth {
		t.Cells = slices.Clone(t.Cells)
		return t
	})
	return c
}

// copiedPlan returns a plan in new memory.
func copiedPlan(p plan) plan { return made(p, slices.Clone[[]move.Place]) }

// cellsOf returns the cells of a tooth at a place by the definition.
func cellsOf(tooth move.Tooth, p move.Place) []api.Cell {
	return setOf(made(tooth.Cells, func(c api.Cell) api.Cell {
		return plus(p.At, []api.Cell{at(c.X, c.Y, c.Z), at(-c.Y, c.X, c.Z), at(-c.X, -c.Y, c.Z), at(c.Y, -c.X, c.Z)}[p.Turn])
	})...)
}

// apart returns the least number of steps from a cell of a list to one of another list.
func apart(a, b []api.Cell) int {
	size := func(n int) int { return max(n, -n) }
	n := greatest
	for _, c := range a {
		for _, d := range b {
			n = min(n, size(c.X-d.X)+size(c.Y-d.Y)+size(c.Z-d.Z))
		}
	}
	return n
}

// isBad reports whether a place is none.
func isBad(p move.Place) bool {
	isFar := func(n int) bool { return n < -1000 || n > 1000 }
	return isFar(p.At.X) || isFar(p.At.Y) || isFar(p.At.Z) || p.Turn < 0 || p.Turn > 3
}

// isIn reports whether all cells of a list are in the box of a case.
func isIn(c move.Case, l []api.Cell) bool {
	return !slices.ContainsFunc(l, func(d api.Cell) bool {
		return d.X < c.Low.X || d.X > c.High.X || d.Y < c.Low.Y || d.Y > c.High.Y || d.Z < c.Low.Z || d.Z > c.High.Z
	})
}

// errorOf returns the error of as many places as a case has teeth by the definition.
func errorOf(c move.Case, s []move.Place) api.Errno {
	for i, p := range s {
		if isBad(p) || !isIn(c, cellsOf(c.Teeth[i], p)) {
			return api.ErrRange
		}
		for j := range i {
			switch d := apart(cellsOf(c.Teeth[j], s[j]), cellsOf(c.Teeth[i], p)); {
			case d == 0:
				return api.ErrHit
			case d <= c.Gap:
				return api.ErrGap
			}
		}
	}
	return api.OK
}

// way returns the steps and the quarters from a place to another one: a quarter leads from 0 to 1, from 1 to 2, from 2 to 3, from 3 to 0, and back.
func way(p, q move.Place) (steps, quarters int) {
	return apart([]api.Cell{p.At}, []api.Cell{q.At}), [4]int{0, 1, 2, 1}[(q.Turn-p.Turn+4)%4]
}

// isStage reports whether a stage from one valid state to another one is permitted.
func isStage(c move.Case, s, t []move.Place) bool {
	for i, tooth := range c.Teeth {
		steps, quarters := way(s[i], t[i])
		if tooth.Fixed && s[i] != t[i] || steps > c.Shift || quarters > c.Turn {
			return false
		}
	}
	return true
}

// fromOf and toOf return the places From and To of a case.
func fromOf(c move.Case) []move.Place {
	return made(c.Teeth, func(t move.Tooth) move.Place { return t.From })
}

func toOf(c move.Case) []move.Place {
	return made(c.Teeth, func(t move.Tooth) move.Place { return t.To })
}

func comparePlaces(p, q move.Place) int {
	return cmp.Or(compare(p.At, q.At), cmp.Compare(p.Turn, q.Turn))
}

func compareStates(s, t []move.Place) int { return slices.CompareFunc(s, t, comparePlaces) }

func comparePlans(p, q plan) int { return slices.CompareFunc(p, q, compareStates) }

// placesOf returns the places of a search of a tooth in a box from -5 to 5; its cells are from -3 to 3.
func placesOf(c move.Case, tooth move.Tooth) []move.Place {
	if tooth.Fixed {
		return []move.Place{tooth.From}
	}
	var l []move.Place
	for _, where := range block(plus(c.Low, at(-3, -3, -3)), plus(c.High, at(3, 3, 3))) {
		for turn := range 4 {
			p := move.Place{At: where, Turn: turn}
			if (c.Turn > 0 || turn == tooth.From.Turn) && isIn(c, cellsOf(tooth, p)) {
				l = append(l, p)
			}
		}
	}
	return l
}

// statesOf returns how many states a search has, and the valid ones; for more than most states nothing but their number.
func statesOf(c move.Case, most int) (int, plan) {
	all := plan{nil}
	for _, tooth := range c.Teeth {
		var longer plan
		for _, s := range all {
			for _, p := range placesOf(c, tooth) {
				longer = append(longer, append(slices.Clone(s), p))
			}
		}
		if all = longer; len(all) > most {
			return len(all), nil
		}
	}
	return len(all), slices.DeleteFunc(slices.Clone(all), func(s []move.Place) bool { return errorOf(c, s) != api.OK })
}

// plansOf returns for each state that can be reached the first one of the plans with the fewest states that end with it.
// Of two such plans the one whose states before the last one come first is first, so that nothing is lost if of all plans to a state only the first one is kept.
func plansOf(c move.Case, states plan) []plan {
	all := []plan{{fromOf(c)}}
	isMet := func(s []move.Place) bool {
		return slices.ContainsFunc(all, func(p plan) bool { return slices.Equal(p[len(p)-1], s) })
	}
	for edge := all; len(edge) > 0; {
		var next []plan
		for _, s := range states {
			if isMet(s) {
				continue
			}
			var best plan
			for _, p := range edge {
				if isStage(c, p[len(p)-1], s) && (best == nil || comparePlans(p, best) < 0) {
					best = p
				}
			}
			if best != nil {
				next = append(next, append(slices.Clone(best), s))
			}
		}
		all, edge = append(all, next...), next
	}
	return all
}

// randomPlace returns a place around a box.
func randomPlace(r *rand.Rand, c move.Case) move.Place {
	return move.Place{At: at(between(r, c.Low.X-1, c.High.X+1), between(r, c.Low.Y-1, c.High.Y+1), between(r, c.Low.Z-1, c.High.Z+1)), Turn: r.IntN(4)}
}

// likelyPlace returns a place at which a tooth is in the box, if one is found soon.
func likelyPlace(r *rand.Rand, c move.Case, tooth move.Tooth) move.Place {
	p := randomPlace(r, c)
	for tries := 0; tries < 30 && !isIn(c, cellsOf(tooth, p)); tries++ {
		p = randomPlace(r, c)
	}
	return p
}

// randomState returns places at which the teeth of a case are without an error, if some are found.
func randomState(r *rand.Rand, c move.Case) ([]move.Place, bool) {
	var s []move.Place
	for tries := 0; len(s) < len(c.Teeth); tries++ {
		if tries > 300 {
			return nil, false
		}
		p := randomPlace(r, c)
		if with := append(slices.Clone(s), p); errorOf(c, with) == api.OK {
			s = with
		}
	}
	return s, true
}

// randomCase returns a valid case of up to three teeth in a small box.
func randomCase(r *rand.Rand) move.Case {
	for teeth := between(r, 1, 3); ; {
		c := move.Case{Low: at(between(r, -2, 0), between(r, -2, 0), 0), Shift: between(r, 0, 3), Turn: between(r, 0, 2), Gap: between(r, 0, 1)}
		c.High = plus(c.Low, at(between(r, 0, 3), between(r, 0, 2), r.IntN(2)))
		for i := range teeth {
			c.Teeth = append(c.Teeth, move.Tooth{Name: string(rune('a' + i)), Cells: randomSet(r, 3, at(-1, -1, 0), at(1, 1, 0)), Fixed: r.IntN(5) == 0})
		}
		from, isFound := randomState(r, c)
		wanted, isWanted := randomState(r, c)
		if !isFound || !isWanted {
			continue
		}
		for i := range c.Teeth {
			tooth := &c.Teeth[i]
			tooth.From, tooth.To = from[i], wanted[i]
			if tooth.Fixed {
				tooth.To = tooth.From
			} else if c.Turn == 0 && r.IntN(4) > 0 {
				// Most of these cases have a plan, if turns are not permitted; some have none.
				tooth.To.Turn = tooth.From.Turn
			}
		}
		if errorOf(c, toOf(c)) == api.OK {
			return c
		}
	}
}

// solved is a small case, its valid states, and the first ones of the shortest plans to all states that can be reached.
type solved struct {
	c      move.Case
	states plan
	plans  []plan
}

// shortest returns the plan to the places To, or nil.
func (s solved) shortest() plan {
	for _, p := range s.plans {
		if slices.Equal(p[len(p)-1], toOf(s.c)) {
			return p
		}
	}
	return nil
}

// reached returns the states that can be reached, ascending.
func (s solved) reached() plan {
	l := made(s.plans, func(p plan) []move.Place { return p[len(p)-1] })
	slices.SortFunc(l, compareStates)
	return l
}

// solvedCases returns random cases that are solved by the definitions, the same ones for each test: no test may change them.
var solvedCases = sync.OnceValue(func() []solved {
	r := dice()
	var l []solved
	for len(l) < 250 {
		c := randomCase(r)
		if all, states := statesOf(c, 400); all <= 400 {
			l = append(l, solved{c, states, plansOf(c, states)})
		}
	}
	return l
})

// randomWalk returns a case with a plan that is accepted: its teeth go anywhere for some stages.
func randomWalk(r *rand.Rand) (move.Case, plan) {
	for {
		c := randomCase(r)
		p := plan{fromOf(c)}
		for range between(r, 0, 400) {
			s := slices.Clone(p[len(p)-1])
			for i, tooth := range c.Teeth {
				if !tooth.Fixed && r.IntN(2) == 0 {
					s[i] = randomPlace(r, c)
				}
			}
			if errorOf(c, s) == api.OK && isStage(c, p[len(p)-1], s) {
				p = append(p, s)
			}
		}
		for i := range c.Teeth {
			c.Teeth[i].To = p[len(p)-1][i]
		}
		if len(p) <= move.MaxPlan {
			return c, p
		}
	}
}

// faulty is an argument with an error.
type faulty[T any] struct {
	what string
	arg  T
	e    api.Errno
}

// outOf returns numbers that are not from low to high.
func outOf(low, high int) []int { return []int{low - 1, high + 1, least, greatest} }

// badCells returns cells that are none.
func badCells() []api.Cell {
	return []api.Cell{at(1001, 0, 0), at(-1001, 0, 0), at(0, 1001, 0), at(0, -1001, 0), at(0, 0, 1001), at(0, 0, -1001), at(least, 0, 0), at(0, greatest, 0), at(0, 0, least)}
}

// badPlaces returns places that are none.
func badPlaces() []move.Place {
	l := made(badCells(), func(c api.Cell) move.Place { return move.Place{At: c} })
	for _, turn := range outOf(0, 3) {
		l = append(l, to(0, 0, 0, turn))
	}
	return l
}

// faultySets returns sets of cells with each kind of error.
func faultySets() []faulty[[]api.Cell] {
	l := []faulty[[]api.Cell]{
		{"too many cells", row(4097), api.ErrMany},
		{"too many cells that are none", many(4097, at(0, 0, 1001)), api.ErrMany},
		{"cells in a wrong order", []api.Cell{at(0, 0, 1), at(0, 0, 0)}, api.ErrOrder},
		{"a cell twice", []api.Cell{at(0, 0, 1), at(0, 0, 1)}, api.ErrOrder},
		{"a wrong order before a cell that is none", []api.Cell{at(0, 0, 1), at(0, 0, 0), at(1001, 0, 0)}, api.ErrOrder},
	}
	for _, c := range badCells() {
		l = append(l, faulty[[]api.Cell]{"a cell that is none", []api.Cell{c}, api.ErrRange})
	}
	return l
}

// faultyCases returns cases with each kind of error, and with the first one of two.
func faultyCases() []faulty[move.Case] {
	var l []faulty[move.Case]
	add := func(what string, e api.Errno, change func(c *move.Case)) {
		l = append(l, faulty[move.Case]{what, caseE(change), e})
	}
	for _, bad := range badCells() {
		add("Low", api.ErrRange, func(c *move.Case) { c.Low, c.High = bad, at(-9, -9, -9) })
		add("High", api.ErrRange, func(c *move.Case) { c.Low, c.High = at(1000, 1000, 1000), bad })
	}
	for _, high := range []api.Cell{at(-1, 1, 0), at(3, -1, 0), at(3, 1, -1)} {
		add("Low above High", api.ErrOrder, func(c *move.Case) { c.High, c.Shift, c.Turn, c.Gap = high, -1, -1, -1 })
	}
	for _, n := range outOf(0, move.MaxShift) {
		add("Shift", api.ErrRange, func(c *move.Case) { c.Shift, c.Teeth = n, make([]move.Tooth, 17) })
	}
	for _, n := range outOf(0, 2) {
		add("Turn", api.ErrRange, func(c *move.Case) { c.Turn, c.Teeth = n, make([]move.Tooth, 17) })
	}
	for _, n := range outOf(0, move.MaxGap) {
		add("Gap", api.ErrRange, func(c *move.Case) { c.Gap, c.Teeth = n, make([]move.Tooth, 17) })
	}
	add("too many teeth", api.ErrMany, func(c *move.Case) { c.Teeth = make([]move.Tooth, 17) })
	add("too many teeth that are in each other", api.ErrMany, func(c *move.Case) { c.Teeth = many(17, c.Teeth[0]) })
	l = append(l, faultyTeeth()...)
	return append(l, faultyStarts()...)
}

// faultyTeeth returns cases with a tooth with each kind of error.
func faultyTeeth() []faulty[move.Case] {
	var l []faulty[move.Case]
	add := func(what string, e api.Errno, change func(t *move.Tooth)) {
		c := caseE()
		change(&c.Teeth[1])
		// A later tooth, and the places of a former one, do not matter.
		c.Teeth[0].From = to(9, 9, 9)
		c.Teeth = append(c.Teeth, move.Tooth{})
		l = append(l, faulty[move.Case]{what, c, e})
	}
	for _, name := range []string{"", "1", "_a", "a b", "a-b", "ä", "abcdefghijklmnopqrstuvwxy"} {
		add("the name "+name, api.ErrName, func(t *move.Tooth) { t.Name, t.Cells = name, row(4097) })
	}
	add("a name twice", api.ErrTwice, func(t *move.Tooth) { t.Name, t.Cells = "a", row(4097) })
	for _, s := range faultySets() {
		add("a tooth: "+s.what, s.e, func(t *move.Tooth) { t.Cells, t.From = s.arg, to(0, 0, 0, 4) })
	}
	add("no cells", api.ErrEmpty, func(t *move.Tooth) { t.Cells, t.From = nil, to(0, 0, 0, 4) })
	for _, p := range badPlaces() {
		add("a place From", api.ErrRange, func(t *move.Tooth) { t.From, t.To, t.Fixed = p, to(1, 0, 0), true })
		add("a place To", api.ErrRange, func(t *move.Tooth) { t.To, t.Fixed = p, true })
	}
	add("a fixed tooth that goes", api.ErrRule, func(t *move.Tooth) { t.Fixed = true })
	add("a fixed tooth that turns", api.ErrRule, func(t *move.Tooth) { t.Fixed, t.From, t.To = true, to(1, 0, 0, 1), to(1, 0, 0, 2) })
	return l
}

// faultyStarts returns cases with places From or To with each kind of error.
func faultyStarts() []faulty[move.Case] {
	var l []faulty[move.Case]
	add := func(what string, e api.Errno, from, wanted []move.Place) {
		c := caseE(func(c *move.Case) { c.Gap = 1 })
		c.Teeth = append(c.Teeth, move.Tooth{Name: "c", Cells: []api.Cell{at(0, 0, 0)}})
		c.High = at(9, 0, 0)
		for i := range c.Teeth {
			c.Teeth[i].From, c.Teeth[i].To = from[i], wanted[i]
		}
		l = append(l, faulty[move.Case]{what, c, e})
	}
	right := []move.Place{to(0, 0, 0), to(3, 0, 0), to(6, 0, 0)}
	out := []move.Place{to(0, 0, 0), to(3, 1, 0), to(3, 1, 0)}
	hit := []move.Place{to(0, 0, 0), to(3, 0, 0), to(3, 0, 0)}
	near := []move.Place{to(1, 0, 0), to(9, 0, 0), to(0, 0, 0)}
	for _, f := range []faulty[[]move.Place]{
		{"out of the box", out, api.ErrRange},
		{"a cell shared", hit, api.ErrHit},
		{"too near", near, api.ErrGap},
		{"too near to the first one, and in the second one", []move.Place{to(4, 0, 0), to(6, 0, 0), to(5, 0, 0)}, api.ErrGap},
		{"in the first one, and too near to the second one", []move.Place{to(4, 0, 0), to(6, 0, 0), to(4, 0, 0)}, api.ErrHit},
		{"the first one in the second one, the third one out of the box", []move.Place{to(4, 0, 0), to(4, 0, 0), to(-1, 0, 0)}, api.ErrHit},
	} {
		add("From: "+f.what, f.e, f.arg, near)
		add("From: "+f.what, f.e, f.arg, out)
		add("From: "+f.what, f.e, f.arg, right)
		add("To: "+f.what, f.e, right, f.arg)
	}
	return l
}
