package mill_test

import (
	"math/rand/v2"
	"slices"
	"testing"

	"cusp/api"
	"cusp/grid"
	"cusp/mill"
)

// P8.6: what follows from the other promises.

// isWithin reports whether all cells of a list are in another one.
func isWithin(l, other []api.Cell) bool { return len(without(l, other)) == 0 }

// TestNoCellOfThePartIsTaken: nor one that cannot be seen from the direction.
func TestNoCellOfThePartIsTaken(t *testing.T) {
	r := dice()
	taken := 0
	for range 3000 {
		s, o := randomSetup(r), randomOp(r, 8)
		isPart, d := setMap(s.Part), spindles()[o.Dir]
		for _, c := range fine[[]api.Cell](t)(mill.Reach(s, o)) {
			taken++
			for ; isIn(s.Blank, c); c = plus(c, d) {
				same(t, "a cell of the part on the way", isPart[c], false)
			}
		}
	}
	if taken < 20000 {
		t.Errorf("only %d cells taken", taken)
	}
}

func TestGreaterPartsAndMoreOperations(t *testing.T) {
	r := dice()
	less, fewer := 0, 0
	for range 3000 {
		s, l := randomSetup(r), append(randomOps(r, 3, 4), randomOp(r, 4))
		greater := s
		greater.Part = setOf(append(randomSet(r, 3, s.Blank), s.Part...)...)
		one, other := fine[[]api.Cell](t)(mill.Reach(s, l[0])), fine[[]api.Cell](t)(mill.Reach(greater, l[0]))
		same(t, "no more with a greater part", isWithin(other, one), true)
		stands, others := fine[[]api.Cell](t)(mill.Centres(s, l[0])), fine[[]api.Cell](t)(mill.Centres(greater, l[0]))
		same(t, "no more centres with a greater part", isWithin(others, stands), true)
		rest, all := fine[[]api.Cell](t)(mill.Left(s, l[1:])), fine[[]api.Cell](t)(mill.Left(s, l))
		same(t, "no more with more operations", isWithin(all, rest), true)
		counts := 0
		for _, n := range fine[[]int](t)(mill.Removed(s, l)) {
			counts += n
		}
		same(t, "what is taken, what is left, and the part", counts+len(all)+len(s.Part), len(block(s.Blank)))
		if len(other)+len(greater.Part) < len(one)+len(s.Part) {
			less++
		}
		if len(all) < len(rest) {
			fewer++
		}
	}
	if less < 200 || fewer < 200 {
		t.Errorf("only %d greater parts from which less is taken, and %d operations that take more", less, fewer)
	}
}

// moved returns cells that are moved.
func moved(l []api.Cell, by api.Cell) []api.Cell {
	return made(l, func(c api.Cell) api.Cell { return plus(c, by) })
}

// TestMovedSetups: a setup that is moved has everything moved, also at the corners of the grid.
func TestMovedSetups(t *testing.T) {
	r := dice()
	for range 1000 {
		s, l := randomSetup(r), append(randomOps(r, 4, 4), randomOp(r, 4))
		by := randomCell(r, boxOf(at(-990, -990, -990), at(990, 990, 990)))
		if r.IntN(2) == 0 {
			by = at(1000-s.Blank.High.X, -1000-s.Blank.Low.Y, 1000-s.Blank.High.Z)
		}
		there := mill.Setup{Blank: boxOf(plus(s.Blank.Low, by), plus(s.Blank.High, by)), Part: moved(s.Part, by)}
		same(t, "Centres", fine[[]api.Cell](t)(mill.Centres(there, l[0])), moved(fine[[]api.Cell](t)(mill.Centres(s, l[0])), by))
		same(t, "Reach", fine[[]api.Cell](t)(mill.Reach(there, l[0])), moved(fine[[]api.Cell](t)(mill.Reach(s, l[0])), by))
		same(t, "Left", fine[[]api.Cell](t)(mill.Left(there, l)), moved(fine[[]api.Cell](t)(mill.Left(s, l)), by))
		same(t, "Removed", fine[[]int](t)(mill.Removed(there, l)), fine[[]int](t)(mill.Removed(s, l)))
		same(t, "Fewest", fine[[]int](t)(mill.Fewest(there, l)), fine[[]int](t)(mill.Fewest(s, l)))
		same(t, "CheckMilled", mill.CheckMilled(there, l), mill.CheckMilled(s, l))
	}
}

// TestTurnedSetups: a setup that is turned by a quarter is milled from the next side.
func TestTurnedSetups(t *testing.T) {
	r := dice()
	next := map[int]int{0: 0, 1: 3, 3: 2, 2: 4, 4: 1}
	quarter := func(l []api.Cell) []api.Cell {
		return setOf(made(l, func(c api.Cell) api.Cell { return turned(c, 1) })...)
	}
	for range 1000 {
		s, o := randomSetup(r), randomOp(r, 4)
		box := fine[grid.Box](t)(grid.Bound(quarter(block(s.Blank))))
		there := mill.Setup{Blank: box, Part: quarter(s.Part)}
		same(t, "Reach", fine[[]api.Cell](t)(mill.Reach(there, mill.Op{Tool: o.Tool, Dir: next[o.Dir]})), quarter(fine[[]api.Cell](t)(mill.Reach(s, o))))
	}
}

// TestNoFewerOperations: no fewer operations do what the fewest do.
func TestNoFewerOperations(t *testing.T) {
	r := dice()
	for range 150 {
		s, l := randomSetup(r), randomOps(r, 8, 2)
		all := fine[[]api.Cell](t)(mill.Left(s, l))
		numbers := fine[[]int](t)(mill.Fewest(s, l))
		for set := range 1 << len(l) {
			var some []mill.Op
			var chosen []int
			for i, o := range l {
				if set>>i&1 == 1 {
					some, chosen = append(some, o), append(chosen, i)
				}
			}
			if slices.Equal(chosen, numbers) {
				same(t, "the fewest do all", fine[[]api.Cell](t)(mill.Left(s, some)), all)
			} else if len(some) < len(numbers) {
				same(t, "fewer do all", len(fine[[]api.Cell](t)(mill.Left(s, some))) > len(all), true)
			}
		}
	}
}

// TestGoodPlaces: parts at good places have a distance above the gap, and all of their cells; what Find finds is good.
func TestGoodPlaces(t *testing.T) {
	r := dice()
	good, found := 0, 0
	check := func(n mill.Nest, l []mill.Place) {
		var all [][]api.Cell
		for i, p := range l {
			there := fine[[]api.Cell](t)(mill.Placed(n.Parts[i], p))
			same(t, "all of its cells", fine[grid.Count](t)(grid.Counts(there)), fine[grid.Count](t)(grid.Counts(n.Parts[i])))
			for _, before := range all {
				same(t, "above the gap", fine[int](t)(grid.Apart(before, there)) > n.Gap, true)
			}
			all = append(all, there)
		}
		if sum := slices.Concat(all...); len(sum) > 0 {
			same(t, "in the blank", isIn(n.Blank, sum...), true)
			same(t, "no cell twice", len(setOf(sum...)), len(sum))
		}
	}
	for range 3000 {
		n := randomNest(r)
		places := made(n.Parts, func(part []api.Cell) mill.Place {
			return mill.Place{Quarters: r.IntN(4), At: randomCell(r, n.Blank)}
		})
		if mill.CheckNest(n, places) == api.OK {
			check(n, places)
			good++
		}
		if l, e := mill.Find(n); e == api.OK {
			same(t, "what Find finds", mill.CheckNest(n, l), api.OK)
			check(n, l)
			found++
		}
	}
	if good < 300 || found < 300 {
		t.Errorf("only %d good places, and %d that are found", good, found)
	}
}

// TestPlacesOrReason: there are good places, or there is a reason, never both.
func TestPlacesOrReason(t *testing.T) {
	r := dice()
	without := 0
	for range 3000 {
		n := randomNest(r)
		_, e := mill.Find(n)
		reason, none := mill.Why(n)
		if e == api.OK {
			same(t, "a reason beside places", none, api.ErrNone)
			continue
		}
		without++
		same(t, "no places", e, api.ErrInfeasible)
		same(t, "a reason", none, api.OK)
		same(t, "its check", mill.CheckWhy(n, reason), api.OK)
		other := reason
		other.Second++
		same(t, "another one", mill.CheckWhy(n, other), api.ErrProof)
	}
	if without < 300 {
		t.Errorf("only %d nests without places", without)
	}
}

// randomScale returns a set, a cell, and a factor with up to 600 digits.
func randomScale(r *rand.Rand, n int, b grid.Box) ([]api.Cell, api.Cell, api.Rat) {
	factor := randomFactor(r)
	if r.IntN(4) == 0 {
		bottom := int64(between(r, 1, 12))
		factor = long(bottom+r.Int64N(bottom), bottom, 1)
	}
	return randomSet(r, n, b), randomCell(r, boxOf(at(-4, -4, -4), at(4, 4, 4))), factor
}

// TestEnlargedAndSintered: a set that is enlarged is in another one exactly if it is in what that one is sintered to.
func TestEnlargedAndSintered(t *testing.T) {
	r := dice()
	is, isNot := 0, 0
	for range 3000 {
		b := randomBox(r, 4, 4, 4)
		l, about, factor := randomScale(r, 6, b)
		larger := fine[[]api.Cell](t)(mill.Enlarged(l, about, factor))
		same(t, "no fewer cells", len(larger) >= len(l), true)
		other := setOf(append(randomSet(r, 9, b), larger...)...)
		if r.IntN(2) == 0 && len(other) > 0 {
			other = slices.Delete(other, 0, 1+r.IntN(len(other))/9)
		}
		smaller := fine[[]api.Cell](t)(mill.Sintered(other, about, factor))
		same(t, "no more cells", len(smaller) <= len(other), true)
		same(t, "in the other one", isWithin(larger, other), isWithin(l, smaller))
		same(t, "what was sintered, enlarged", isWithin(fine[[]api.Cell](t)(mill.Enlarged(smaller, about, factor)), other), true)
		same(t, "what was enlarged, sintered", isWithin(l, fine[[]api.Cell](t)(mill.Sintered(larger, about, factor))), true)
		if isWithin(l, smaller) {
			is++
		} else {
			isNot++
		}
	}
	if is < 500 || isNot < 500 {
		t.Errorf("%d sets in another one, %d not", is, isNot)
	}
}
