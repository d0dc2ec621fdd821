package mill_test

import (
	"slices"
	"testing"

	"cusp/api"
	"cusp/grid"
	"cusp/mill"
)

// P8.3: Placed, CheckNest, Find, Why and CheckWhy.

// to returns a place without a turn, or by some quarters.
func to(x, y, z int, quarters ...int) mill.Place {
	p := mill.Place{At: at(x, y, z)}
	if len(quarters) > 0 {
		p.Quarters = quarters[0]
	}
	return p
}

// bar returns n cells in a row along X, not at the middle of the grid.
func bar(n int) []api.Cell { return block(boxOf(at(5, 6, 7), at(4+n, 6, 7))) }

// line returns a blank of n cells in a row along X.
func line(n int) grid.Box { return boxOf(at(0, 0, 0), at(n-1, 0, 0)) }

// nestOf returns a nest.
func nestOf(b grid.Box, gap int, parts ...[]api.Cell) mill.Nest {
	return mill.Nest{Blank: b, Parts: parts, Gap: gap}
}

func TestNestsOfTheExamples(t *testing.T) {
	n := nestOf(boxOf(at(0, 0, 0), at(2, 1, 0)), 0, []api.Cell{at(0, 0, 0), at(1, 0, 0)}, bar(1))
	same(t, "with the gap 0", fine[[]mill.Place](t)(mill.Find(n)), []mill.Place{to(0, 0, 0), to(0, 1, 0)})
	n.Gap = 1
	same(t, "with the gap 1", fine[[]mill.Place](t)(mill.Find(n)), []mill.Place{to(0, 0, 0), to(2, 1, 0)})
	same(t, "two parts of two cells in three", fine[mill.Reason](t)(mill.Why(nestOf(line(3), 0, bar(2), bar(2)))), mill.Reason{Kind: "volume"})
	same(t, "four cells in a row in three", fine[mill.Reason](t)(mill.Why(nestOf(line(3), 0, bar(4)))), mill.Reason{Kind: "single"})
}

func TestPlaced(t *testing.T) {
	corner := []api.Cell{at(4, 4, 4), at(5, 4, 4), at(6, 4, 4), at(6, 5, 5)}
	for quarters, wanted := range [][]api.Cell{
		{at(0, 0, 0), at(1, 0, 0), at(2, 0, 0), at(2, 1, 1)},
		{at(0, 2, 1), at(1, 0, 0), at(1, 1, 0), at(1, 2, 0)},
		{at(0, 0, 1), at(0, 1, 0), at(1, 1, 0), at(2, 1, 0)},
		{at(0, 0, 0), at(0, 1, 0), at(0, 2, 0), at(1, 0, 1)},
	} {
		same(t, "a corner", fine[[]api.Cell](t)(mill.Placed(corner, to(0, 0, 0, quarters))), wanted)
	}
	r := dice()
	for range 2000 {
		l := append(randomSet(r, 9, randomBox(r, 5, 5, 5)), at(-9, 0, 0))
		p := mill.Place{Quarters: r.IntN(4), At: randomCell(r, boxOf(at(-900, -900, -900), at(900, 900, 900)))}
		same(t, "Placed", fine[[]api.Cell](t)(mill.Placed(setOf(l...), p)), placed(setOf(l...), p))
	}
}

// TestPlacedAtTheEnds: parts that reach from one end of the grid to the other one, and parts that do not stay in it.
func TestPlacedAtTheEnds(t *testing.T) {
	ends := []api.Cell{at(-1000, -1000, -1000), at(1000, 1000, 1000)}
	for quarters := range 4 {
		p := to(-1000, -1000, -1000, quarters)
		same(t, "a part as large as the grid", fine[[]api.Cell](t)(mill.Placed(ends, p)), placed(ends, p))
		for _, by := range []api.Cell{at(-999, -1000, -1000), at(-1000, -999, -1000), at(-1000, -1000, -999), at(1000, 1000, 1000)} {
			l, e := mill.Placed(ends, mill.Place{Quarters: quarters, At: by})
			refused(t, "a part that leaves the grid", l, e, api.ErrRange)
		}
	}
	same(t, "a bar at the end", fine[[]api.Cell](t)(mill.Placed(bar(3), to(998, 1000, 1000))), []api.Cell{at(998, 1000, 1000), at(999, 1000, 1000), at(1000, 1000, 1000)})
	same(t, "a bar that is turned at the end", len(fine[[]api.Cell](t)(mill.Placed(bar(3), to(1000, 998, 0, 3)))), 3)
	for _, p := range []mill.Place{to(999, 0, 0), to(999, 0, 0, 2), to(0, 999, 0, 1), to(0, 999, 0, 3)} {
		l, e := mill.Placed(bar(3), p)
		refused(t, "a bar beyond the end", l, e, api.ErrRange)
	}
	full := block(boxOf(at(-1000, 0, 0), at(-985, 15, 15)))
	same(t, "as many cells as a set has", fine[[]api.Cell](t)(mill.Placed(full, to(985, -1000, 985, 1))), block(boxOf(at(985, -1000, 985), at(1000, -985, 1000))))
}

func TestErrorsOfPlaced(t *testing.T) {
	for _, f := range faultySets() {
		l, e := mill.Placed(f.arg, to(0, 0, 0, 4))
		refused(t, f.what, l, e, f.e)
	}
	for _, f := range faultyPlaces() {
		for _, part := range [][]api.Cell{nil, bar(2)} {
			l, e := mill.Placed(part, f.arg)
			refused(t, f.what, l, e, f.e)
		}
	}
	l, e := mill.Placed(nil, to(1000, 0, 0))
	refused(t, "no cells", l, e, api.ErrEmpty)
}

func TestCheckNest(t *testing.T) {
	b := boxOf(at(0, 0, 0), at(9, 1, 0))
	for _, c := range []struct {
		what   string
		gap    int
		places []mill.Place
		wanted api.Errno
	}{
		{"side by side", 0, []mill.Place{to(0, 0, 0), to(2, 0, 0), to(4, 0, 0)}, api.OK},
		{"turned", 0, []mill.Place{to(0, 0, 0, 1), to(1, 0, 0, 3), to(2, 0, 0, 2)}, api.OK},
		{"a gap", 2, []mill.Place{to(0, 0, 0), to(5, 0, 0), to(9, 0, 0, 1)}, api.OK},
		{"a cell less", 2, []mill.Place{to(0, 0, 0), to(5, 0, 0), to(8, 0, 0)}, api.ErrGap},
		{"a gap around a corner", 1, []mill.Place{to(0, 0, 0), to(2, 1, 0), to(6, 0, 0)}, api.OK},
		{"too near around a corner", 2, []mill.Place{to(0, 0, 0), to(2, 1, 0), to(6, 0, 0)}, api.ErrGap},
		{"touching with a gap", 1, []mill.Place{to(4, 0, 0), to(0, 0, 0), to(2, 0, 0)}, api.ErrGap},
		{"a cell of the first one", 0, []mill.Place{to(0, 0, 0), to(4, 0, 0), to(1, 0, 0)}, api.ErrHit},
		{"a cell of the second one", 1, []mill.Place{to(0, 0, 0), to(4, 0, 0), to(5, 0, 0)}, api.ErrHit},
		{"near to the first one, and in the second one", 1, []mill.Place{to(0, 0, 0), to(3, 0, 0), to(2, 0, 0)}, api.ErrHit},
		{"in the first one, and near to the second one", 1, []mill.Place{to(3, 0, 0), to(0, 0, 0), to(2, 0, 0)}, api.ErrHit},
		{"the second one too near, the third one in it", 1, []mill.Place{to(0, 0, 0), to(2, 0, 0), to(2, 0, 0)}, api.ErrGap},
		{"the second one in the first one, the third one out", 0, []mill.Place{to(0, 0, 0), to(1, 0, 0), to(9, 0, 0)}, api.ErrHit},
		{"the second one out, the third one in the first one", 0, []mill.Place{to(0, 0, 0), to(9, 0, 0), to(0, 0, 0)}, api.ErrRule},
		{"out, and in the first one", 0, []mill.Place{to(8, 0, 0), to(9, 0, 0), to(0, 0, 0)}, api.ErrRule},
		{"above the blank", 0, []mill.Place{to(0, 0, 1), to(2, 0, 0), to(4, 0, 0)}, api.ErrRule},
		{"below", 0, []mill.Place{to(0, 0, -1), to(2, 0, 0), to(4, 0, 0)}, api.ErrRule},
		{"too far for a turned one", 0, []mill.Place{to(0, 1, 0, 1), to(2, 0, 0), to(4, 0, 0)}, api.ErrRule},
		{"beyond the grid", 0, []mill.Place{to(1000, 1000, 1000), to(2, 0, 0), to(4, 0, 0)}, api.ErrRule},
		{"at the other end of the grid", 0, []mill.Place{to(-1000, -1000, -1000), to(2, 0, 0), to(4, 0, 0)}, api.ErrRule},
	} {
		same(t, c.what, mill.CheckNest(nestOf(b, c.gap, bar(2), bar(2), bar(2)), c.places), c.wanted)
	}
	same(t, "no parts", mill.CheckNest(nestOf(b, 0), nil), api.OK)
}

func TestPlacesOfNests(t *testing.T) {
	r := dice()
	errors := map[api.Errno]int{}
	for range 6000 {
		n := randomNest(r)
		var places []mill.Place
		for _, part := range n.Parts {
			p := mill.Place{Quarters: r.IntN(4), At: randomCell(r, boxOf(plus(n.Blank.Low, at(-1, -1, 0)), n.Blank.High))}
			if inside := placesIn(n, part); len(inside) > 0 && r.IntN(4) > 0 {
				p = inside[r.IntN(len(inside))]
			}
			places = append(places, p)
		}
		wanted := errorOf(n, places)
		same(t, "CheckNest", mill.CheckNest(n, places), wanted)
		errors[wanted]++
	}
	for _, e := range []api.Errno{api.OK, api.ErrRule, api.ErrHit, api.ErrGap} {
		if errors[e] < 300 {
			t.Errorf("the errors of places: %v", errors)
		}
	}
}

// TestLargeNests: as many parts, cells, and steps of the gap as are permitted.
func TestLargeNests(t *testing.T) {
	b := boxOf(at(-8, -8, -1000), at(7, 7, -985))
	var places []mill.Place
	for i := range 64 {
		places = append(places, to(-8+i%4*4, -8+i/4%4*4, -1000+i/16*4, i%4))
	}
	n := mill.Nest{Blank: b, Parts: many(64, block(boxOf(at(0, 0, 0), at(3, 3, 3))))}
	same(t, "64 parts that fill a blank", mill.CheckNest(n, places), api.OK)
	n.Gap = 1
	same(t, "64 parts that touch", mill.CheckNest(n, places), api.ErrGap)
	full := block(b)
	same(t, "a part as large as the blank", mill.CheckNest(nestOf(b, 64, full), []mill.Place{to(-8, -8, -1000, 3)}), api.OK)
	same(t, "two of them", mill.CheckNest(nestOf(b, 64, full, full), []mill.Place{to(-8, -8, -1000), to(-8, -8, -1000, 1)}), api.ErrHit)
	long := boxOf(at(-1000, 0, 0), at(1000, 0, 0))
	ends := []api.Cell{at(-1000, 0, 0), at(1000, 0, 0)}
	same(t, "the greatest gap", mill.CheckNest(nestOf(long, 64, ends, bar(1), bar(1)), []mill.Place{to(-1000, 0, 0), to(-935, 0, 0), to(935, 0, 0)}), api.OK)
	same(t, "a step less", mill.CheckNest(nestOf(long, 64, ends, bar(1), bar(1)), []mill.Place{to(-1000, 0, 0), to(-935, 0, 0), to(936, 0, 0)}), api.ErrGap)
	same(t, "ends that are turned out of the blank", mill.CheckNest(nestOf(long, 0, ends), []mill.Place{to(-1000, 0, 0, 1)}), api.ErrRule)
}

func TestErrorsOfCheckNest(t *testing.T) {
	for _, f := range faultyNests() {
		same(t, f.what, mill.CheckNest(f.arg, make([]mill.Place, 70)), f.e)
	}
	n := nestOf(line(9), 0, bar(1), bar(1), bar(1))
	bad := to(0, 0, 0, 4)
	same(t, "too few places", mill.CheckNest(n, []mill.Place{bad, bad}), api.ErrShape)
	same(t, "too many places", mill.CheckNest(n, []mill.Place{bad, bad, bad, bad}), api.ErrShape)
	same(t, "no places", mill.CheckNest(n, nil), api.ErrShape)
	same(t, "a place of no part", mill.CheckNest(nestOf(line(9), 0), []mill.Place{{}}), api.ErrShape)
	for _, f := range faultyPlaces() {
		// The second place is that of the first one, the third one is out of the blank.
		same(t, f.what, mill.CheckNest(n, []mill.Place{to(0, 1, 0), to(0, 1, 0), f.arg}), f.e)
	}
}

func TestFindAndWhy(t *testing.T) {
	r := dice()
	kinds := map[string]int{}
	for range 2500 {
		n := randomNest(r)
		wanted, isGood := firstGood(n)
		places, e := mill.Find(n)
		reason, none := mill.Why(n)
		if isGood {
			same(t, "the error of Find", e, api.OK)
			same(t, "Find", places, wanted)
			refused(t, "Why of what is good", reason, none, api.ErrNone)
			kinds[""]++
			continue
		}
		refused(t, "Find of what is not", places, e, api.ErrInfeasible)
		same(t, "the error of Why", none, api.OK)
		same(t, "Why", reason, reasonOf(n))
		kinds[reason.Kind]++
	}
	for _, kind := range []string{"", "single", "volume", "pair", "all"} {
		if kinds[kind] < 25 {
			t.Errorf("the reasons: %v", kinds)
		}
	}
}

// TestNestsByTheirPlaces: places that are not the first ones, turns, and what is left for later parts.
func TestNestsByTheirPlaces(t *testing.T) {
	find := func(n mill.Nest) []mill.Place {
		t.Helper()
		return fine[[]mill.Place](t)(mill.Find(n))
	}
	same(t, "no parts", find(nestOf(line(3), 0)), nil)
	same(t, "a bar that has to be turned", find(nestOf(boxOf(at(4, 4, 4), at(4, 6, 4)), 0, bar(3))), []mill.Place{to(4, 4, 4, 1)})
	same(t, "the first part makes room", find(nestOf(line(5), 1, bar(1), bar(3))), []mill.Place{to(0, 0, 0), to(2, 0, 0)})
	same(t, "two parts make room", find(nestOf(line(5), 1, bar(1), bar(1), bar(1))), []mill.Place{to(0, 0, 0), to(2, 0, 0), to(4, 0, 0)})
	same(t, "the first part goes to the end", find(nestOf(line(6), 1, []api.Cell{at(0, 0, 0), at(2, 0, 0)}, bar(2))), []mill.Place{to(0, 0, 0), to(4, 0, 0)})
	hook := []api.Cell{at(0, 0, 0), at(0, 1, 0), at(1, 0, 0)}
	same(t, "the second hook is turned into the first one", find(nestOf(boxOf(at(0, 0, 0), at(2, 1, 0)), 0, hook, hook)), []mill.Place{to(0, 0, 0), to(1, 0, 0, 2)})
	same(t, "quarters come before cells", find(nestOf(boxOf(at(0, 0, 0), at(1, 1, 1)), 0, hook, bar(1), hook)), []mill.Place{to(0, 0, 0), to(0, 0, 1), to(0, 0, 1, 2)})
	same(t, "a blank at the end of the grid", find(nestOf(boxOf(at(997, 1000, -1000), at(1000, 1000, -1000)), 1, bar(2), bar(1))), []mill.Place{to(997, 1000, -1000), to(1000, 1000, -1000)})
	cube := boxOf(at(-1, -1, -1), at(2, 2, 2))
	same(t, "64 cells at once", find(nestOf(cube, 64, block(boxOf(at(0, 0, 0), at(3, 3, 3))))), []mill.Place{to(-1, -1, -1)})
	same(t, "the last cell of 64", find(nestOf(cube, 0, without(block(cube), []api.Cell{at(2, 2, 2)}), bar(1))), []mill.Place{to(-1, -1, -1), to(2, 2, 2)})
	same(t, "the corners of 64 cells", find(nestOf(cube, 8, bar(1), bar(1))), []mill.Place{to(-1, -1, -1), to(2, 2, 2)})
	same(t, "64 cells in a row", find(nestOf(line(64), 61, bar(1), bar(1))), []mill.Place{to(0, 0, 0), to(62, 0, 0)})
	same(t, "three at the ends", find(nestOf(line(64), 30, bar(1), bar(2), bar(1))), []mill.Place{to(0, 0, 0), to(31, 0, 0), to(63, 0, 0)})
}

func TestReasonsByTheirOrder(t *testing.T) {
	for _, c := range []struct {
		what string
		n    mill.Nest
		r    mill.Reason
	}{
		{"the first of two that do not fit", nestOf(line(3), 0, bar(1), bar(4), bar(5)), mill.Reason{Kind: "single", First: 1}},
		{"a part that does not fit among too many cells", nestOf(line(3), 9, bar(3), bar(3), bar(4)), mill.Reason{Kind: "single", First: 2}},
		{"too many cells, and pairs without places", nestOf(line(3), 0, bar(2), bar(2), bar(2)), mill.Reason{Kind: "volume"}},
		{"a cell too many", nestOf(line(3), 0, bar(2), bar(1), bar(1)), mill.Reason{Kind: "volume"}},
		{"as many cells as there are, but a pair", nestOf(line(3), 1, bar(1), bar(1), bar(1)), mill.Reason{Kind: "all"}},
		{"the first pair", nestOf(line(5), 1, bar(1), bar(2), bar(2)), mill.Reason{Kind: "all"}},
		{"the last pair", nestOf(line(5), 1, bar(1), bar(1), bar(3)), mill.Reason{Kind: "all"}},
		{"the first part with the second one", nestOf(line(6), 2, bar(2), bar(3), bar(1)), mill.Reason{Kind: "pair", Second: 1}},
		{"the first part with the third one", nestOf(line(6), 2, bar(2), bar(1), bar(3)), mill.Reason{Kind: "pair", Second: 2}},
		{"the second part with the third one", nestOf(line(6), 2, bar(1), bar(2), bar(3)), mill.Reason{Kind: "pair", First: 1, Second: 2}},
		{"the greatest gap", nestOf(line(64), 63, bar(1), bar(1)), mill.Reason{Kind: "pair", Second: 1}},
	} {
		same(t, c.what, fine[mill.Reason](t)(mill.Why(c.n)), c.r)
		for _, kind := range []string{"single", "volume", "pair", "all"} {
			for i := -1; i <= 3; i++ {
				for j := -1; j <= 3; j++ {
					r := mill.Reason{Kind: kind, First: i, Second: j}
					wanted := api.ErrProof
					if r == c.r {
						wanted = api.OK
					}
					same(t, "CheckWhy: "+c.what, mill.CheckWhy(c.n, r), wanted)
				}
			}
		}
	}
	for _, kind := range []string{"single", "volume", "pair", "all"} {
		for _, n := range []mill.Nest{nestOf(line(3), 0, bar(1), bar(2)), nestOf(line(3), 0)} {
			same(t, "a reason for what is good", mill.CheckWhy(n, mill.Reason{Kind: kind}), api.ErrProof)
			same(t, "a pair for what is good", mill.CheckWhy(n, mill.Reason{Kind: kind, Second: 1}), api.ErrProof)
		}
	}
}

func TestErrorsOfSearches(t *testing.T) {
	fail := func(what string, n mill.Nest, wanted api.Errno) {
		t.Helper()
		places, e := mill.Find(n)
		refused(t, "Find: "+what, places, e, wanted)
		reason, e := mill.Why(n)
		refused(t, "Why: "+what, reason, e, wanted)
		same(t, "CheckWhy: "+what, mill.CheckWhy(n, mill.Reason{Kind: "none"}), wanted)
	}
	for _, f := range faultyNests() {
		fail(f.what, f.arg, f.e)
	}
	fail("four parts", nestOf(line(3), 0, bar(1), bar(1), bar(1), bar(4)), api.ErrLimit)
	fail("65 cells", nestOf(line(65), 0, bar(66)), api.ErrLimit)
	fail("65 cells and no parts", nestOf(boxOf(at(0, 0, 0), at(4, 12, 0)), 0), api.ErrLimit)
	fail("4096 cells", nestOf(boxOf(at(0, 0, 0), at(15, 15, 15)), 0, bar(1)), api.ErrLimit)
	for _, kind := range []string{"", "none", "Single", "all ", "pairs"} {
		same(t, "a kind that is none", mill.CheckWhy(nestOf(line(3), 0, bar(4)), mill.Reason{Kind: kind}), api.ErrKind)
		same(t, "a kind that is none for what is good", mill.CheckWhy(nestOf(line(3), 0, bar(1)), mill.Reason{Kind: kind, First: -1}), api.ErrKind)
	}
	large := block(boxOf(at(-16, 0, 0), at(-1, 15, 15)))
	same(t, "a part of 4096 cells", fine[mill.Reason](t)(mill.Why(nestOf(line(64), 0, bar(1), bar(1), large))), mill.Reason{Kind: "single", First: 2})
	ends := []api.Cell{at(-1000, -1000, -1000), at(1000, 1000, 1000)}
	same(t, "a part as large as the grid", fine[mill.Reason](t)(mill.Why(nestOf(line(64), 0, bar(1), ends))), mill.Reason{Kind: "single", First: 1})
}

func TestMemoryOfNests(t *testing.T) {
	n := nestOf(boxOf(at(0, 0, 0), at(2, 1, 0)), 1, bar(2), bar(1))
	before := copiedNest(n)
	l := fine[[]api.Cell](t)(mill.Placed(n.Parts[0], to(5, 6, 7)))
	l[0] = at(9, 9, 9)
	same(t, "the part that was placed where it is", n, before)
	places := fine[[]mill.Place](t)(mill.Find(n))
	given := slices.Clone(places)
	same(t, "what Find finds", mill.CheckNest(n, places), api.OK)
	same(t, "the places", places, given)
	places[0] = to(9, 9, 9)
	same(t, "Find again", fine[[]mill.Place](t)(mill.Find(n)), given)
	same(t, "the nest", n, before)
}
