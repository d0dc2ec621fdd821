package bite_test

import (
	"slices"
	"testing"

	"cusp/api"
	"cusp/bite"
	"cusp/grid"
)

func TestSteps(t *testing.T) {
	// Each number changes by -3 to 3.
	for n := range 7 * 7 * 7 {
		by := at(n/49-3, n/7%7-3, n%7-3)
		want := api.OK
		if by == at(0, 0, 0) {
			want = api.ErrTwice
		} else if max(by.X, -by.X, by.Y, -by.Y, by.Z, -by.Z) > 1 {
			want = api.ErrOrder
		}
		for _, from := range []api.Cell{at(0, 0, 0), at(-500, 3, 900)} {
			same(t, "CheckPath of a step "+short(by), bite.CheckPath([]api.Cell{from, plus(from, by)}), want)
			same(t, "CheckPath of a later step "+short(by), bite.CheckPath([]api.Cell{plus(from, at(1, 0, 0)), from, plus(from, by)}), want)
		}
	}
}

func TestCheckPath(t *testing.T) {
	for _, x := range []struct {
		what string
		path []api.Cell
		e    api.Errno
	}{
		{"nil", nil, api.ErrEmpty},
		{"nothing", []api.Cell{}, api.ErrEmpty},
		{"one position", swing(1), api.OK},
		{"256 positions", swing(256), api.OK},
		{"257 positions", swing(257), api.ErrMany},
		{"257 bad positions", make([]api.Cell, 257), api.ErrMany},
		{"a way back", []api.Cell{at(0, 0, 0), at(1, 1, 1), at(0, 0, 0)}, api.OK},
		{"the corners of the grid", []api.Cell{at(1000, -1000, 1000), at(999, -999, 999)}, api.OK},
		{"a number out of range before a position twice", []api.Cell{at(0, 0, 0), at(1001, 0, 0), at(1001, 0, 0)}, api.ErrRange},
		{"a position twice before a number out of range", []api.Cell{at(0, 0, 0), at(0, 0, 0), at(1001, 0, 0)}, api.ErrTwice},
		{"a wrong step before a position twice", []api.Cell{at(0, 0, 0), at(2, 0, 0), at(2, 0, 0)}, api.ErrOrder},
		{"a position twice before a wrong step", []api.Cell{at(0, 0, 0), at(0, 0, 0), at(2, 0, 0)}, api.ErrTwice},
		{"a step out of range", []api.Cell{at(1000, 0, 0), at(1001, 0, 0)}, api.ErrRange},
		{"a position out of range twice", []api.Cell{at(0, 0, -1001), at(0, 0, -1001)}, api.ErrRange},
		{"a step round the integers", []api.Cell{at(0, 0, 0), at(least, 0, greatest)}, api.ErrRange},
	} {
		same(t, "CheckPath of "+x.what, bite.CheckPath(x.path), x.e)
	}
	for _, c := range badCells() {
		same(t, "CheckPath of a bad position", bite.CheckPath([]api.Cell{c}), api.ErrRange)
		same(t, "CheckPath of a later bad position", bite.CheckPath([]api.Cell{at(0, 0, 0), c}), api.ErrRange)
	}
}

func TestCheckBite(t *testing.T) {
	same(t, "CheckBite", bite.CheckBite(chapter()), api.OK)
	same(t, "CheckBite of nothing", bite.CheckBite(bite.Bite{}), api.ErrEmpty)
	for _, x := range faultyBites() {
		same(t, "CheckBite of "+x.what, bite.CheckBite(x.b), x.e)
	}
	// The largest sets, and the longest path.
	same(t, "CheckBite of the largest one", bite.CheckBite(bite.Bite{Upper: row(4096), Lower: row(4096), Path: swing(256)}), api.OK)
	// Upper and lower cells may be the same ones: that is a hit, and no error.
	same(t, "CheckBite of a hit", bite.CheckBite(single(row(3), row(3))), api.OK)
}

// TestOrderOfErrors has bites with two errors: that of the part that comes first is told.
func TestOrderOfErrors(t *testing.T) {
	bad := bite.Bite{Upper: []api.Cell{at(0, 0, 0), at(0, 0, 0)}, Lower: []api.Cell{}, Path: []api.Cell{at(0, 0, 0), at(0, 0, 2)}}
	same(t, "CheckBite with a bad upper set", bite.CheckBite(bad), api.ErrOrder)
	bad.Upper = []api.Cell{at(1001, 0, 0)}
	same(t, "CheckBite with a bad upper cell", bite.CheckBite(bad), api.ErrRange)
	bad.Upper = row(1)
	same(t, "CheckBite without a lower set", bite.CheckBite(bad), api.ErrEmpty)
	bad.Lower = []api.Cell{at(1000, 0, 0)}
	bad.Path = []api.Cell{at(1, 0, 0), at(1, 0, 0)}
	same(t, "CheckBite with a bad path, out of the grid", bite.CheckBite(bad), api.ErrTwice)
	bad.Path = bad.Path[:1]
	same(t, "CheckBite out of the grid", bite.CheckBite(bad), api.ErrRange)
	bad.Path = []api.Cell{at(0, 0, 0)}
	same(t, "CheckBite at the border of the grid", bite.CheckBite(bad), api.OK)
}

// TestReach has lower sets that come to the border of the grid, and beyond it.
func TestReach(t *testing.T) {
	r := dice()
	counts := map[api.Errno]int{}
	for range 2000 {
		far := func() int { return []int{-996, 0, 996}[r.IntN(3)] }
		center := at(far(), far(), far())
		b := bite.Bite{Upper: row(1), Lower: randomSet(r, 3, plus(center, at(-1, -1, -1)), plus(center, at(1, 1, 1))), Path: randomPath(r, 12, at(0, 0, 0))}
		want := api.OK
		for i := range b.Path {
			if grid.CheckCells(placed(b, i)) != api.OK {
				want = api.ErrRange
			}
		}
		counts[want]++
		same(t, "CheckBite of "+short(b), bite.CheckBite(b), want)
	}
	same(t, "enough of each kind", counts[api.OK] > 100 && counts[api.ErrRange] > 100, true)
	for _, by := range []api.Cell{at(1, 0, 0), at(-1, 0, 0), at(0, 1, 0), at(0, -1, 0), at(0, 0, 1), at(0, 0, -1)} {
		b := bite.Bite{Upper: row(1), Lower: setOf(at(-1000, 0, 0), at(1000, 0, 0), at(0, -1000, 0), at(0, 1000, 0), at(0, 0, -1000), at(0, 0, 1000)), Path: []api.Cell{at(0, 0, 0), by, at(0, 0, 0)}}
		same(t, "CheckBite with a step out of the grid", bite.CheckBite(b), api.ErrRange)
		b.Lower = []api.Cell{at(-1000*by.X, -1000*by.Y, -1000*by.Z)}
		b.Path = []api.Cell{at(1000*by.X, 1000*by.Y, 1000*by.Z), at(999*by.X, 999*by.Y, 999*by.Z)}
		same(t, "CheckBite with a step into the grid", bite.CheckBite(b), api.OK)
	}
}

func TestPlace(t *testing.T) {
	same(t, "Place", fine[[]api.Cell](t)(bite.Place(chapter(), 3)), []api.Cell{at(0, 0, 3), at(3, 0, 4)})
	r := dice()
	for range 300 {
		b := randomBite(r)
		for i := range b.Path {
			got := fine[[]api.Cell](t)(bite.Place(b, i))
			same(t, "Place", got, placed(b, i))
			same(t, "the error of what is placed", grid.CheckCells(got), api.OK)
		}
	}
	for _, x := range faultyBites() {
		l, e := bite.Place(x.b, 0)
		refused(t, "Place of "+x.what, l, e, x.e)
		l, e = bite.Place(x.b, -1)
		refused(t, "Place of "+x.what, l, e, x.e)
	}
	for _, n := range faultyPositions() {
		l, e := bite.Place(chapter(), n)
		refused(t, "Place of no position", l, e, api.ErrUnknown)
	}
}

func TestBackward(t *testing.T) {
	want := chapter()
	slices.Reverse(want.Path)
	same(t, "Backward", fine[bite.Bite](t)(bite.Backward(chapter())), want)
	want.Path = []api.Cell{at(0, 0, 1), at(1, 1, 0)}
	b := want
	b.Path = []api.Cell{at(1, 1, 0), at(0, 0, 1)}
	same(t, "Backward", fine[bite.Bite](t)(bite.Backward(b)), want)
	b.Path = swing(1)
	same(t, "Backward of one position", fine[bite.Bite](t)(bite.Backward(b)), b)
	for _, x := range faultyBites() {
		b, e := bite.Backward(x.b)
		refused(t, "Backward of "+x.what, b, e, x.e)
	}
}

func TestShifted(t *testing.T) {
	b := fine[bite.Bite](t)(bite.Shifted(chapter(), at(1, -2, 3)))
	same(t, "the shifted upper set", b.Upper, []api.Cell{at(1, -2, 8), at(4, -2, 8)})
	same(t, "the shifted lower set", b.Lower, []api.Cell{at(1, -2, 3), at(4, -2, 4)})
	same(t, "the path that stays", b.Path, chapter().Path)
	// From the one end of the grid to the other one.
	low := single([]api.Cell{at(-1000, -1000, -999)}, []api.Cell{at(-1000, -1000, -1000)})
	high := single([]api.Cell{at(1000, 1000, 1000)}, []api.Cell{at(1000, 1000, 999)})
	same(t, "Shifted far", fine[bite.Bite](t)(bite.Shifted(low, at(2000, 2000, 1999))), high)
	same(t, "Shifted back", fine[bite.Bite](t)(bite.Shifted(high, at(-2000, -2000, -1999))), low)
	for _, by := range []api.Cell{at(2001, 0, 0), at(-2001, 0, 0), at(0, 2001, 0), at(0, -2001, 0), at(0, 0, 2001), at(0, 0, -2001), at(greatest, 0, 0), at(0, 0, least)} {
		b, e := bite.Shifted(low, by)
		refused(t, "Shifted by a bad vector", b, e, api.ErrRange)
	}
	for _, by := range []api.Cell{at(998, 0, 0), at(-1001, 0, 0), at(0, 1001, 0), at(0, -1001, 0), at(0, 0, 996), at(0, 0, -1001), at(2000, 0, 0), at(0, -2000, 0)} {
		b, e := bite.Shifted(chapter(), by)
		refused(t, "Shifted out of the grid", b, e, api.ErrRange)
	}
	fine[bite.Bite](t)(bite.Shifted(chapter(), at(997, 1000, 995)))
	fine[bite.Bite](t)(bite.Shifted(chapter(), at(-1000, -1000, -1000)))
	// Both sets are in the grid, but on its way the lower one is not.
	up := chapter()
	up.Upper = []api.Cell{at(9, 9, 4)}
	fine[bite.Bite](t)(bite.Shifted(up, at(0, 0, 995)))
	b, e := bite.Shifted(up, at(0, 0, 996))
	refused(t, "Shifted out of the grid on the way", b, e, api.ErrRange)
	for _, x := range faultyBites() {
		b, e := bite.Shifted(x.b, at(1, 1, 1))
		refused(t, "Shifted of "+x.what, b, e, x.e)
		b, e = bite.Shifted(x.b, at(9999, 0, 0))
		refused(t, "Shifted of "+x.what, b, e, x.e)
	}
}

func TestFlipped(t *testing.T) {
	b := fine[bite.Bite](t)(bite.Flipped(chapter()))
	same(t, "the upper set upside down", b.Upper, []api.Cell{at(0, 0, 0), at(3, 0, -1)})
	same(t, "the lower set upside down", b.Lower, []api.Cell{at(0, 0, -5), at(3, 0, -5)})
	same(t, "the path upside down", b.Path, chapter().Path)
	// The order of cells in a column changes.
	b = bite.Bite{Upper: []api.Cell{at(1, 2, 3), at(1, 2, 7)}, Lower: []api.Cell{at(4, 5, -2), at(4, 5, 6), at(4, 6, 0)}, Path: []api.Cell{at(1, -2, 3), at(2, -1, 4)}}
	want := bite.Bite{Upper: []api.Cell{at(4, 5, -6), at(4, 5, 2), at(4, 6, 0)}, Lower: []api.Cell{at(1, 2, -7), at(1, 2, -3)}, Path: []api.Cell{at(-1, 2, 3), at(-2, 1, 4)}}
	same(t, "Flipped", fine[bite.Bite](t)(bite.Flipped(b)), want)
	same(t, "Flipped twice", fine[bite.Bite](t)(bite.Flipped(want)), b)
	// What was the upper set goes out of the grid.
	for _, x := range []struct{ upper, by api.Cell }{
		{at(1000, 0, 0), at(-1, 0, 0)}, {at(-1000, 0, 0), at(1, 0, 0)}, {at(0, 1000, 0), at(0, -1, 0)}, {at(0, -1000, 0), at(0, 1, 0)}, {at(0, 0, -1000), at(0, 0, 1)}, {at(0, 0, 1000), at(0, 0, -1)},
	} {
		b := bite.Bite{Upper: []api.Cell{x.upper}, Lower: row(1), Path: []api.Cell{at(0, 0, 0), x.by}}
		flipped, e := bite.Flipped(b)
		refused(t, "Flipped out of the grid", flipped, e, api.ErrRange)
		b.Path[1] = at(-x.by.X, -x.by.Y, -x.by.Z)
		fine[bite.Bite](t)(bite.Flipped(b))
	}
	for _, x := range faultyBites() {
		b, e := bite.Flipped(x.b)
		refused(t, "Flipped of "+x.what, b, e, x.e)
	}
}

// TestOwnMemory changes results: what they were made from stays as it was.
func TestOwnMemory(t *testing.T) {
	spoil := func(lists ...[]api.Cell) {
		for _, l := range lists {
			for i := range l {
				l[i] = at(77, 77, 77)
			}
		}
	}
	b := chapter()
	for _, change := range []func() bite.Bite{
		func() bite.Bite { return fine[bite.Bite](t)(bite.Backward(b)) },
		func() bite.Bite { return fine[bite.Bite](t)(bite.Shifted(b, at(0, 0, 0))) },
		func() bite.Bite { return fine[bite.Bite](t)(bite.Flipped(b)) },
	} {
		result := change()
		spoil(result.Upper)
		same(t, "the lower set beside a changed upper one", slices.Contains(result.Lower, at(77, 77, 77)), false)
		spoil(result.Lower, result.Path)
		same(t, "a bite after changes of a result", b, chapter())
	}
	spoil(fine[[]api.Cell](t)(bite.Place(b, 0)), fine[[]api.Cell](t)(bite.Hits(b, 4)), fine[[]api.Cell](t)(bite.Contacts(b, 3)))
	spoil(fine[[]api.Cell](t)(bite.Way(b, grid.Box{Low: at(0, 0, 0), High: at(0, 0, 3)}, at(0, 0, 0), at(0, 0, 3))))
	same(t, "a bite after changes of results", b, chapter())
}
