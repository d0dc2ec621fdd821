package bite_test

import (
	"slices"
	"testing"

	"cusp/api"
	"cusp/bite"
	"cusp/grid"
)

func boxOf(low, high api.Cell) grid.Box { return grid.Box{Low: low, High: high} }

// pin returns a bite whose lower set is one cell: the hits are at the upper cells.
func pin(upper ...api.Cell) bite.Bite { return single(setOf(upper...), []api.Cell{at(0, 0, 0)}) }

func TestChapterWay(t *testing.T) {
	box := boxOf(at(-1, 0, 0), at(1, 0, 4))
	want := []api.Cell{at(0, 0, 0), at(-1, 0, 1), at(-1, 0, 2), at(0, 0, 3)}
	same(t, "Way", fine[[]api.Cell](t)(bite.Way(chapter(), box, at(0, 0, 0), at(0, 0, 3))), want)
}

func TestWay(t *testing.T) {
	far := pin(at(900, 900, 900))
	box := boxOf(at(-2, -2, -2), at(2, 2, 2))
	for _, x := range []struct {
		what     string
		from, to api.Cell
		want     []api.Cell
	}{
		{"no step", at(1, 1, 1), at(1, 1, 1), []api.Cell{at(1, 1, 1)}},
		{"one step", at(0, 0, 0), at(1, -1, 1), []api.Cell{at(0, 0, 0), at(1, -1, 1)}},
		{"two steps, by the least one", at(0, 0, 0), at(2, 0, 0), []api.Cell{at(0, 0, 0), at(1, -1, -1), at(2, 0, 0)}},
		{"two steps back", at(2, 0, 0), at(0, 0, 0), []api.Cell{at(2, 0, 0), at(1, -1, -1), at(0, 0, 0)}},
		{"at the border of the box", at(-2, -2, -2), at(0, -2, -2), []api.Cell{at(-2, -2, -2), at(-1, -2, -2), at(0, -2, -2)}},
		{"across", at(-2, -2, -2), at(2, 2, 2), []api.Cell{at(-2, -2, -2), at(-1, -1, -1), at(0, 0, 0), at(1, 1, 1), at(2, 2, 2)}},
	} {
		same(t, "Way of "+x.what, fine[[]api.Cell](t)(bite.Way(far, box, x.from, x.to)), x.want)
	}
	// The path of the bite does not matter.
	far.Path = []api.Cell{at(7, 7, 7), at(8, 8, 8)}
	same(t, "Way", fine[[]api.Cell](t)(bite.Way(far, box, at(0, 0, 0), at(0, 0, 1))), []api.Cell{at(0, 0, 0), at(0, 0, 1)})
}

// TestWayAround has walls between two positions.
func TestWayAround(t *testing.T) {
	wall := pin(at(1, 0, 0), at(1, 1, 0), at(1, 2, 0))
	same(t, "Way around", fine[[]api.Cell](t)(bite.Way(wall, boxOf(at(0, 0, 0), at(2, 3, 0)), at(0, 0, 0), at(2, 0, 0))), []api.Cell{at(0, 0, 0), at(0, 1, 0), at(0, 2, 0), at(1, 3, 0), at(2, 2, 0), at(2, 1, 0), at(2, 0, 0)})
	same(t, "Way over", fine[[]api.Cell](t)(bite.Way(wall, boxOf(at(0, 0, 0), at(2, 2, 1)), at(0, 0, 0), at(2, 0, 0))), []api.Cell{at(0, 0, 0), at(1, 0, 1), at(2, 0, 0)})
	l, e := bite.Way(wall, boxOf(at(0, 0, 0), at(2, 2, 0)), at(0, 0, 0), at(2, 0, 0))
	refused(t, "Way without a gap", l, e, api.ErrInfeasible)
	// A set of two cells does not come through a gap of one, one cell does.
	slit := single([]api.Cell{at(2, 0, 0), at(2, 2, 0)}, []api.Cell{at(0, 0, 0)})
	box := boxOf(at(0, 0, 0), at(4, 2, 0))
	same(t, "Way through a slit", fine[[]api.Cell](t)(bite.Way(slit, box, at(0, 1, 0), at(4, 1, 0))), []api.Cell{at(0, 1, 0), at(1, 0, 0), at(2, 1, 0), at(3, 0, 0), at(4, 1, 0)})
	slit.Lower = []api.Cell{at(0, 0, 0), at(0, 1, 0)}
	l, e = bite.Way(slit, box, at(0, 1, 0), at(4, 1, 0))
	refused(t, "Way through a slit that is too narrow", l, e, api.ErrInfeasible)
}

func isStep(a, b api.Cell) bool {
	return a != b && max(a.X-b.X, b.X-a.X, a.Y-b.Y, b.Y-a.Y, a.Z-b.Z, b.Z-a.Z) <= 1
}

// isFree reports whether there is no hit when the lower set is shifted by a vector.
func isFree(b bite.Bite, by api.Cell) bool {
	return len(common(b.Upper, placed(bite.Bite{Lower: b.Lower, Path: []api.Cell{by}}, 0))) == 0
}

// wayOf returns the shortest way by the definition: the least path of each length to each position, until one is that to the last one.
func wayOf(b bite.Bite, positions []api.Cell, from, to api.Cell) []api.Cell {
	ways := map[api.Cell][]api.Cell{from: {from}}
	for range len(positions) {
		if way, has := ways[to]; has {
			return way
		}
		longer := map[api.Cell][]api.Cell{}
		for _, c := range positions {
			var best []api.Cell
			for d, way := range ways {
				if isStep(c, d) && (best == nil || slices.CompareFunc(way, best, compare) < 0) {
					best = way
				}
			}
			if best != nil {
				longer[c] = append(slices.Clone(best), c)
			}
		}
		ways = longer
	}
	return nil
}

// TestWaysByDefinition compares ways in small boxes, with sets of several cells, with the definition.
func TestWaysByDefinition(t *testing.T) {
	r := dice()
	met := map[api.Errno]int{}
	lengths := map[int]int{}
	for i := range 3000 {
		low := at(between(r, -2, 2), between(r, -2, 2), between(r, -2, 2))
		box := boxOf(low, plus(low, at(r.IntN(6), r.IntN(5), r.IntN(2))))
		var b bite.Bite
		b.Lower = randomSet(r, 2, at(-1, -1, 0), at(1, 1, 0))
		b.Upper = randomSet(r, 30, plus(box.Low, at(-1, -1, 0)), plus(box.High, at(1, 1, 0)))
		b.Path = []api.Cell{at(0, 0, 0)}
		var positions []api.Cell
		all := fine[[]api.Cell](t)(grid.Block(box))
		for _, c := range all {
			if isFree(b, c) {
				positions = append(positions, c)
			}
		}
		from, to := all[r.IntN(len(all))], all[r.IntN(len(all))]
		if i%4 > 0 && len(positions) > 0 {
			from, to = positions[0], positions[len(positions)-1]
		}
		got, e := bite.Way(b, box, from, to)
		met[e]++
		if !isFree(b, from) || !isFree(b, to) {
			refused(t, "Way from or to a hit", got, e, api.ErrHit)
			continue
		}
		want := wayOf(b, positions, from, to)
		lengths[len(want)]++
		if want == nil {
			refused(t, "Way of "+short(b), got, e, api.ErrInfeasible)
		} else {
			same(t, "Way of "+short(b)+short(box), fine[[]api.Cell](t)(got, e), want)
		}
	}
	same(t, "enough of each kind", met[api.OK] > 1000 && met[api.ErrHit] > 300 && met[api.ErrInfeasible] > 100, true)
	same(t, "enough long ones", lengths[5]+lengths[6]+lengths[7]+lengths[8] > 300, true)
}

// TestLongWays has ways with as many positions as permitted, and one more.
func TestLongWays(t *testing.T) {
	b := pin(at(0, 0, 1000))
	box := boxOf(at(-1000, 0, 0), at(1000, 0, 0))
	for _, start := range []int{-1000, -100, 0, 745} {
		got := fine[[]api.Cell](t)(bite.Way(b, box, at(start, 0, 0), at(start+255, 0, 0)))
		same(t, "the positions of the longest way", len(got), 256)
		for i, c := range got {
			same(t, "a position of it", c, at(start+i, 0, 0))
		}
		same(t, "the error of the longest way", bite.CheckPath(got), api.OK)
	}
	for _, ends := range [][2]int{{0, 256}, {256, 0}, {-1000, 1000}, {744, 1000}} {
		l, e := bite.Way(b, box, at(ends[0], 0, 0), at(ends[1], 0, 0))
		refused(t, "Way that is too long", l, e, api.ErrMany)
	}
	// A wall on a way that is too long: there is none.
	l, e := bite.Way(pin(at(500, 0, 0)), box, at(-1000, 0, 0), at(1000, 0, 0))
	refused(t, "Way with a wall", l, e, api.ErrInfeasible)
}

// TestLargestWay has the largest box, and the largest sets, as far as they fit.
func TestLargestWay(t *testing.T) {
	var b bite.Bite
	for n := range 4096 {
		b.Upper = append(b.Upper, at(n/256, n/16%16, n%16))
		b.Lower = append(b.Lower, at(n/256-16, n/16%16, n%16))
	}
	b.Path = []api.Cell{at(0, 0, 0)}
	box := boxOf(at(0, 0, 0), at(15, 15, 15))
	l, e := bite.Way(b, box, at(0, 0, 0), at(15, 15, 15))
	refused(t, "Way into the upper set", l, e, api.ErrHit)
	// Beside the upper set there are hits nowhere.
	box = boxOf(at(-15, -8, -8), at(0, 7, 7))
	want := []api.Cell{at(0, 0, 0), at(-1, -1, 1), at(0, 0, 2)}
	same(t, "Way beside the upper set", fine[[]api.Cell](t)(bite.Way(b, box, at(0, 0, 0), at(0, 0, 2))), want)
	l, e = bite.Way(b, boxOf(at(0, 0, 0), at(15, 15, 15)), at(0, 0, 0), at(0, 0, 1))
	same(t, "Way along the upper set", fine[[]api.Cell](t)(l, e), []api.Cell{at(0, 0, 0), at(0, 0, 1)})
}

func TestWayBoxes(t *testing.T) {
	o := at(0, 0, 0)
	for _, x := range []struct {
		what string
		box  grid.Box
		e    api.Errno
	}{
		{"a Low above High in X", boxOf(at(1, 0, 0), at(0, 5, 5)), api.ErrOrder},
		{"a Low above High in Y", boxOf(at(0, 1, 0), at(5, 0, 5)), api.ErrOrder},
		{"a Low above High in Z", boxOf(at(0, 0, 1), at(5, 5, 0)), api.ErrOrder},
		{"too many positions", boxOf(o, at(16, 15, 15)), api.ErrMany},
		{"far too many positions", boxOf(at(-1000, -1000, -1000), at(1000, 1000, 1000)), api.ErrMany},
	} {
		for _, to := range []api.Cell{o, at(0, 0, 4), at(9999, 0, 0)} {
			l, e := bite.Way(chapter(), x.box, o, to)
			refused(t, "Way in "+x.what, l, e, x.e)
			l, e = bite.Way(chapter(), x.box, to, o)
			refused(t, "Way in "+x.what, l, e, x.e)
		}
	}
	for _, c := range badCells() {
		l, e := bite.Way(chapter(), boxOf(c, o), o, o)
		refused(t, "Way in a box with a bad Low", l, e, api.ErrRange)
		l, e = bite.Way(chapter(), boxOf(o, c), o, o)
		refused(t, "Way in a box with a bad High", l, e, api.ErrRange)
	}
	same(t, "Way in the largest box", fine[[]api.Cell](t)(bite.Way(chapter(), boxOf(o, at(15, 15, 15)), o, o)), []api.Cell{o})
}

func TestWayEnds(t *testing.T) {
	b := pin(at(0, 0, 2))
	box := boxOf(at(-1, -1, -1), at(1, 1, 3))
	outside := []api.Cell{at(2, 0, 0), at(-2, 0, 0), at(0, 2, 0), at(0, -2, 0), at(0, 0, 4), at(0, 0, -2), at(least, 0, 0), at(0, greatest, 0)}
	for _, c := range outside {
		for _, d := range []api.Cell{at(0, 0, 0), at(0, 0, 2), c} {
			l, e := bite.Way(b, box, c, d)
			refused(t, "Way from outside of the box", l, e, api.ErrUnknown)
			l, e = bite.Way(b, box, d, c)
			refused(t, "Way out of the box", l, e, api.ErrUnknown)
		}
	}
	for _, ends := range [][2]api.Cell{{at(0, 0, 2), at(0, 0, 0)}, {at(0, 0, 0), at(0, 0, 2)}, {at(0, 0, 2), at(0, 0, 2)}} {
		l, e := bite.Way(b, box, ends[0], ends[1])
		refused(t, "Way from or to a hit", l, e, api.ErrHit)
	}
	// A hit is told even where there is no way.
	l, e := bite.Way(pin(at(0, 0, 1), at(0, 0, 3)), boxOf(at(0, 0, 0), at(0, 0, 3)), at(0, 0, 0), at(0, 0, 3))
	refused(t, "Way to a hit behind a wall", l, e, api.ErrHit)
}

// TestWayBeyondTheGrid has boxes with positions at which lower cells are none.
func TestWayBeyondTheGrid(t *testing.T) {
	o := at(0, 0, 0)
	b := single([]api.Cell{o}, setOf(at(-999, 0, 0), at(999, 0, 0), at(0, -999, 0), at(0, 999, 0), at(0, 0, -999), at(0, 0, 999)))
	fine[[]api.Cell](t)(bite.Way(b, boxOf(at(-1, -1, -1), at(1, 1, 1)), o, at(1, 1, 1)))
	for _, c := range []api.Cell{at(2, 0, 0), at(0, 2, 0), at(0, 0, 2)} {
		l, e := bite.Way(b, boxOf(o, c), o, o)
		refused(t, "Way in a box beyond the grid", l, e, api.ErrRange)
		back := at(-c.X, -c.Y, -c.Z)
		l, e = bite.Way(b, boxOf(back, o), o, o)
		refused(t, "Way in a box beyond the grid", l, e, api.ErrRange)
		// An end outside of the box comes first; a hit at an end comes later.
		l, e = bite.Way(b, boxOf(o, c), back, o)
		refused(t, "Way from outside of a box beyond the grid", l, e, api.ErrUnknown)
		hit := b
		hit.Upper = setOf(at(999, 0, 0), at(0, 999, 0), at(0, 0, 999))
		l, e = bite.Way(hit, boxOf(o, c), o, o)
		refused(t, "Way from a hit in a box beyond the grid", l, e, api.ErrRange)
		l, e = bite.Way(hit, boxOf(o, o), o, o)
		refused(t, "Way from a hit", l, e, api.ErrHit)
	}
}

func TestWayErrors(t *testing.T) {
	for _, x := range faultyBites() {
		l, e := bite.Way(x.b, boxOf(at(0, 0, 0), at(1, 1, 1)), at(0, 0, 0), at(1, 1, 1))
		refused(t, "Way of "+x.what, l, e, x.e)
		l, e = bite.Way(x.b, boxOf(at(2, 0, 0), at(1, 1, 1)), at(5, 5, 5), at(5, 5, 5))
		refused(t, "Way of "+x.what, l, e, x.e)
	}
}
