package mill_test

import (
	"fmt"
	"math/big"
	"math/rand/v2"
	"slices"
	"strings"
	"testing"

	"cusp/api"
	"cusp/mill"
)

// P8.5: Enlarged and Sintered.

// isTouched reports whether the interval of a cell, enlarged by a factor about another one, has more than an end in common with that of a third cell, by the definition.
func isTouched(c, about, other int, factor *big.Rat) bool {
	end := func(half int64) *big.Rat {
		v := new(big.Rat).Mul(factor, big.NewRat(2*int64(c-about)+half, 2))
		return v.Add(v, big.NewRat(int64(about), 1))
	}
	low, high := big.NewRat(2*int64(other)-1, 2), big.NewRat(2*int64(other)+1, 2)
	return end(-1).Cmp(high) < 0 && end(1).Cmp(low) > 0
}

// touched returns the coordinates of the cells that are touched along an axis, ascending.
func touched(c, about int, factor *big.Rat) []int {
	var l []int
	// The enlarged middle of the cell is between these two cells.
	for other := min(c, 2*c-about) - 3; other <= max(c, 2*c-about)+3; other++ {
		if isTouched(c, about, other, factor) {
			l = append(l, other)
		}
	}
	return l
}

// ruler returns what touched returns for the cells from one to another one along an axis.
func ruler(low, high, about int, factor *big.Rat) map[int][]int {
	m := map[int][]int{}
	for c := low; c <= high; c++ {
		m[c] = touched(c, about, factor)
	}
	return m
}

// product returns the cells with coordinates of three lists, ascending.
func product(x, y, z []int) []api.Cell {
	var l []api.Cell
	for _, a := range x {
		for _, b := range y {
			for _, c := range z {
				l = append(l, at(a, b, c))
			}
		}
	}
	return l
}

// allEnlarged returns the cells to which cells are enlarged by the definition.
func allEnlarged(l []api.Cell, about api.Cell, factor *big.Rat) []api.Cell {
	return setOf(slices.Concat(made(l, func(c api.Cell) []api.Cell {
		return product(touched(c.X, about.X, factor), touched(c.Y, about.Y, factor), touched(c.Z, about.Z, factor))
	})...)...)
}

// allSintered returns the cells of a cube around 0 0 0 to which a set is sintered by the definition.
func allSintered(l []api.Cell, about api.Cell, factor *big.Rat, size int) []api.Cell {
	isThere := setMap(l)
	x, y, z := ruler(-size, size, about.X, factor), ruler(-size, size, about.Y, factor), ruler(-size, size, about.Z, factor)
	return slices.DeleteFunc(block(boxOf(at(-size, -size, -size), at(size, size, size))), func(c api.Cell) bool {
		return slices.ContainsFunc(product(x[c.X], y[c.Y], z[c.Z]), func(d api.Cell) bool { return !isThere[d] })
	})
}

// ratOf returns a number as math/big has it.
func ratOf(a api.Rat) *big.Rat {
	v, _ := new(big.Rat).SetString(string(a))
	return v
}

// randomFactor returns a factor from 1 to 2; many have a small denominator, so that cubes end where cells do.
func randomFactor(r *rand.Rand) api.Rat {
	bottom := between(r, 1, []int{3, 9, 1000000}[r.IntN(3)])
	return api.Rat(big.NewRat(int64(between(r, bottom, 2*bottom)), int64(bottom)).RatString())
}

// long returns a factor with as many digits as a number has, just above or below a fraction or that fraction itself.
func long(top, bottom int64, by int64) api.Rat {
	large := new(big.Int).Exp(big.NewInt(10), big.NewInt(597), nil)
	v := new(big.Rat).Add(big.NewRat(top, bottom), new(big.Rat).SetFrac(big.NewInt(by), large))
	return api.Rat(v.RatString())
}

func TestScalesOfTheExamples(t *testing.T) {
	one, cube := []api.Cell{at(0, 0, 0)}, block(boxOf(at(-1, -1, -1), at(1, 1, 1)))
	same(t, "a cell about itself", fine[[]api.Cell](t)(mill.Enlarged(one, at(0, 0, 0), "3/2")), cube)
	same(t, "these, sintered", fine[[]api.Cell](t)(mill.Sintered(cube, at(0, 0, 0), "3/2")), one)
	same(t, "by 1", fine[[]api.Cell](t)(mill.Enlarged(cube, at(5, 5, 5), "1")), cube)
	same(t, "sintered by 1", fine[[]api.Cell](t)(mill.Sintered(cube, at(5, 5, 5), "1")), cube)
	same(t, "a cell less", fine[[]api.Cell](t)(mill.Sintered(cube[1:], at(0, 0, 0), "3/2")), nil)
}

// TestScalesWhereCubesEnd: a cube that ends where a cell begins has no more than a face in common with it.
func TestScalesWhereCubesEnd(t *testing.T) {
	for _, c := range []struct {
		x           int
		factor      api.Rat
		first, last int
	}{
		// By 2: from 1 to 3, which are the middles of cells.
		{1, "2", 1, 3},
		{-1, "2", -3, -1},
		{0, "2", -1, 1},
		// By 5/3: from 5/2 to 25/6, and from -5/6 to 5/6.
		{2, "5/3", 3, 4},
		{-2, "5/3", -4, -3},
		{0, "5/3", -1, 1},
		// By 3/2, from 21/4 to 27/4; by 9/7 from 9/2 to 81/14, and the other end at 9/2.
		{4, "3/2", 5, 7},
		{4, "9/7", 5, 6},
		{3, "9/7", 3, 4},
		// Just above and below 9/7.
		{4, long(9, 7, 1), 5, 6},
		{3, long(9, 7, 1), 3, 5},
		{4, long(9, 7, -1), 4, 6},
		{3, long(9, 7, -1), 3, 4},
		{-4, long(9, 7, -1), -6, -4},
		{-3, long(9, 7, 1), -5, -3},
		// Just above 1 each cell but the middle touches two cells, and this one three.
		{0, long(1, 1, 1), -1, 1},
		{1, long(1, 1, 1), 1, 2},
		{-1, long(1, 1, 1), -2, -1},
		{1, long(2, 1, -1), 1, 3},
	} {
		wanted := block(boxOf(at(c.first, 0, 0), at(c.last, 0, 0)))
		got := fine[[]api.Cell](t)(mill.Enlarged([]api.Cell{at(c.x, 0, 0)}, at(0, 0, 0), c.factor))
		got = slices.DeleteFunc(got, func(d api.Cell) bool { return d.Y != 0 || d.Z != 0 })
		what := fmt.Sprintf("%d by %.40s", c.x, c.factor)
		same(t, what, got, wanted)
		same(t, "by the definition: "+what, touched(c.x, 0, ratOf(c.factor)), made(wanted, func(d api.Cell) int { return d.X }))
	}
}

func TestEnlarged(t *testing.T) {
	r := dice()
	for range 1500 {
		b := randomBox(r, 6, 6, 6)
		l, about, factor := randomSet(r, 12, b), randomCell(r, boxOf(at(-6, -6, -6), at(6, 6, 6))), randomFactor(r)
		same(t, "Enlarged by "+string(factor), fine[[]api.Cell](t)(mill.Enlarged(l, about, factor)), allEnlarged(l, about, ratOf(factor)))
	}
}

func TestSintered(t *testing.T) {
	r := dice()
	sizes := map[int]int{}
	for range 400 {
		b := randomBox(r, 7, 7, 7)
		about, factor := randomCell(r, boxOf(at(-6, -6, -6), at(6, 6, 6))), randomFactor(r)
		l := without(block(b), randomSet(r, r.IntN(4)*r.IntN(4), b))
		// A cell that is enlarged to cells of the set is between them and the middle.
		wanted := allSintered(l, about, ratOf(factor), 9)
		got := fine[[]api.Cell](t)(mill.Sintered(l, about, factor))
		same(t, "Sintered by "+string(factor), got, wanted)
		sizes[min(len(got), 9)]++
	}
	if sizes[0] < 50 || sizes[1]+sizes[2]+sizes[3] < 20 || sizes[9] < 50 {
		t.Errorf("the sizes of sets: %v", sizes)
	}
}

// TestScalesAtTheEnds: sets that reach from one end of the grid to the other one, and sets that do not stay in it.
func TestScalesAtTheEnds(t *testing.T) {
	enlarge := func(l []api.Cell, about api.Cell, factor api.Rat, wanted api.Errno) []api.Cell {
		t.Helper()
		got, e := mill.Enlarged(l, about, factor)
		if wanted != api.OK {
			refused(t, "Enlarged", got, e, wanted)
			return nil
		}
		return fine[[]api.Cell](t)(got, e)
	}
	all := block(boxOf(at(-1000, 0, 0), at(1000, 0, 0)))
	same(t, "a row by 1", enlarge(all, at(-1000, -1000, 1000), "1", api.OK), all)
	same(t, "a row, sintered by 1", fine[[]api.Cell](t)(mill.Sintered(all, at(1000, 1000, 1000), "1")), all)
	enlarge(all, at(0, 0, 0), long(1, 1, 1), api.ErrMany)
	enlarge([]api.Cell{at(-1000, 0, 0), at(1000, 0, 0)}, at(0, 0, 0), long(1, 1, 1), api.ErrRange)
	// The cell at 500 is enlarged to 999 to 1001, that at -500 to -1001 to -999; about another cell one of both stays in the grid.
	enlarge([]api.Cell{at(500, 0, 0)}, at(0, 0, 0), "2", api.ErrRange)
	enlarge([]api.Cell{at(0, -500, 0)}, at(0, 0, 0), "2", api.ErrRange)
	enlarge([]api.Cell{at(0, 0, 500)}, at(0, 0, 0), "2", api.ErrRange)
	same(t, "just in the grid", enlarge([]api.Cell{at(499, 0, 0)}, at(0, 0, 0), "2", api.OK), block(boxOf(at(997, -1, -1), at(999, 1, 1))))
	same(t, "about another cell", enlarge([]api.Cell{at(500, 0, 0)}, at(1, 0, 0), "2", api.OK), block(boxOf(at(998, -1, -1), at(1000, 1, 1))))
	same(t, "a cell at the end, not about itself", enlarge([]api.Cell{at(0, 1000, -1000)}, at(0, 1000, -1000), "1", api.OK), []api.Cell{at(0, 1000, -1000)})
	enlarge([]api.Cell{at(0, 1000, -1000)}, at(0, 1000, -1000), "3/2", api.ErrRange)
	enlarge([]api.Cell{at(-1000, -1000, -1000)}, at(1000, 1000, 1000), "2", api.ErrRange)
	// Too many cells, some of them out of the grid.
	enlarge(block(boxOf(at(985, 985, 985), at(1000, 1000, 1000))), at(0, 0, 0), "17/16", api.ErrMany)
	factor := long(3, 2, 1)
	far := []api.Cell{at(-1000, 400, 3), at(-700, 401, 3), at(-333, 402, 4)}
	same(t, "far away, by 600 digits", enlarge(far, at(-900, 800, 1000), factor, api.ErrRange), nil)
	far[0].X, far[1].X, far[2].X = 200, 201, 202
	about := at(-900, 800, 900)
	same(t, "far away", enlarge(far, about, long(4, 3, -1), api.OK), allEnlarged(far, about, ratOf(long(4, 3, -1))))
	grown := allEnlarged(far, about, ratOf(long(4, 3, -1)))
	same(t, "far away, sintered", fine[[]api.Cell](t)(mill.Sintered(grown, about, long(4, 3, -1))), far)
}

// TestScalesOfManyCells: sets of as many cells as are permitted before or behind it.
func TestScalesOfManyCells(t *testing.T) {
	cube := block(boxOf(at(-8, -8, -8), at(7, 7, 7)))
	for _, factor := range []api.Rat{"1", "16/15", "3/2", "2", long(5, 4, 1)} {
		got := fine[[]api.Cell](t)(mill.Sintered(cube, at(0, 0, 0), factor))
		// An axis has as many cells as all of it, as the set is a cube.
		n := 0
		for x := -8; x <= 7; x++ {
			l := touched(x, 0, ratOf(factor))
			if l[0] >= -8 && l[len(l)-1] <= 7 {
				n++
			}
		}
		same(t, "a cube by "+string(factor[:min(9, len(factor))]), len(got), n*n*n)
		same(t, "what it is enlarged to", len(without(fine[[]api.Cell](t)(mill.Enlarged(got, at(0, 0, 0), factor)), cube)), 0)
	}
	// 10 cells along each axis, by 3/2, are from -3/4 to 57/4: they touch 16.
	same(t, "4096 cells", fine[[]api.Cell](t)(mill.Enlarged(block(boxOf(at(0, 0, 0), at(9, 9, 9))), at(0, 0, 0), "3/2")), block(boxOf(at(-1, -1, -1), at(14, 14, 14))))
	var far []api.Cell
	for i := range 152 {
		far = append(far, at(-400+5*i, 0, 0))
	}
	same(t, "4077 cells", len(fine[[]api.Cell](t)(mill.Enlarged(far[1:], at(0, 0, 0), "2"))), 151*27)
	_, e := mill.Enlarged(far, at(0, 0, 0), "2")
	same(t, "4104 cells", e, api.ErrMany)
}

func TestErrorsOfScales(t *testing.T) {
	fail := func(what string, l []api.Cell, about api.Cell, factor api.Rat, wanted api.Errno) {
		t.Helper()
		got, e := mill.Enlarged(l, about, factor)
		refused(t, "Enlarged: "+what, got, e, wanted)
		got, e = mill.Sintered(l, about, factor)
		refused(t, "Sintered: "+what, got, e, wanted)
	}
	one := []api.Cell{at(0, 0, 0)}
	for _, f := range faultySets() {
		fail(f.what, f.arg, at(0, 0, 1001), "x", f.e)
	}
	for _, c := range badCells() {
		fail("about no cell", one, c, "x", api.ErrRange)
	}
	large := strings.Repeat("9", 601)
	for _, factor := range []api.Rat{"", "x", "01", "1.5", "3/1", "6/4", "-0", "1/0", " 1", "+1", "1e0", api.Rat("1" + large + "/0")} {
		fail("a factor that is no number: "+string(factor[:min(5, len(factor))]), one, at(0, 0, 0), factor, api.ErrForm)
	}
	fail("a factor with too many digits", one, at(0, 0, 0), api.Rat(large), api.ErrLarge)
	fail("a fraction with too many digits", one, at(0, 0, 0), api.Rat(large+"/"+large[1:]+"8"), api.ErrLarge)
	for _, factor := range []api.Rat{"0", "-1", "-3/2", "1/2", "999/1000", "2001/1000", "3", "5/2", api.Rat(large[1:]), long(1, 1, -1), long(2, 1, 1)} {
		fail("a factor out of its range", one, at(0, 0, 0), factor, api.ErrRange)
		fail("a factor out of its range for no cells", nil, at(0, 0, 0), factor, api.ErrRange)
	}
	for _, factor := range []api.Rat{"1", "2", "3/2", long(1, 1, 1), long(2, 1, -1)} {
		same(t, "no cells", fine[[]api.Cell](t)(mill.Enlarged(nil, at(1000, -1000, 1000), factor)), nil)
		same(t, "no cells, sintered", fine[[]api.Cell](t)(mill.Sintered(nil, at(1000, -1000, 1000), factor)), nil)
	}
}

func TestMemoryOfScales(t *testing.T) {
	l := block(boxOf(at(-1, -1, -1), at(1, 1, 1)))
	before := slices.Clone(l)
	for _, factor := range []api.Rat{"1", "3/2"} {
		for _, scale := range []func([]api.Cell, api.Cell, api.Rat) ([]api.Cell, api.Errno){mill.Enlarged, mill.Sintered} {
			one, other := fine[[]api.Cell](t)(scale(l, at(0, 0, 0), factor)), fine[[]api.Cell](t)(scale(l, at(0, 0, 0), factor))
			same(t, "the same again", one, other)
			one[0] = at(9, 9, 9)
			same(t, "the other result", slices.Contains(other, at(9, 9, 9)), false)
			same(t, "the set", l, before)
		}
	}
}
