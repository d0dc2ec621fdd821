package insert_test

import (
	"slices"
	"testing"

	"cusp/api"
	"cusp/insert"
)

func TestErrorsOfDirections(t *testing.T) {
	for _, d := range faultyDirections() {
		same(t, "CheckDirection", insert.CheckDirection(d), api.ErrRange)
		w, e := insert.Way(d, 0)
		refused(t, "Way", w, e, api.ErrRange)
		k, c, e := insert.Stuck(nil, nil, d)
		refused(t, "Stuck", k, e, api.ErrRange)
		same(t, "the cell of Stuck", c, api.Cell{})
		l, e := insert.Undercuts(tooLarge(), d)
		refused(t, "Undercuts", l, e, api.ErrRange)
		l, e = insert.Blockout(tooLarge(), d)
		refused(t, "Blockout", l, e, api.ErrRange)
	}
	for x := -8; x <= 8; x++ {
		for y := -8; y <= 8; y++ {
			for z := 1; z <= 8; z++ {
				same(t, "CheckDirection", insert.CheckDirection(at(x, y, z)), api.OK)
			}
		}
	}
}

func TestErrorsOfWays(t *testing.T) {
	for _, k := range []int{-1, 2001, least, greatest} {
		w, e := insert.Way(at(0, 0, 1), k)
		refused(t, "Way", w, e, api.ErrRange)
	}
	for _, s := range faultySets() {
		k, c, e := insert.Stuck(s.arg, []api.Cell{at(0, 0, 2), at(0, 0, 1)}, api.Cell{})
		refused(t, "Stuck, the part: "+s.what, k, e, s.e)
		same(t, "the cell of Stuck", c, api.Cell{})
		k, c, e = insert.Stuck([]api.Cell{at(0, 0, 0)}, s.arg, api.Cell{})
		refused(t, "Stuck, the base: "+s.what, k, e, s.e)
		same(t, "the cell of Stuck", c, api.Cell{})
		l, e := insert.Undercuts(s.arg, api.Cell{})
		refused(t, "Undercuts: "+s.what, l, e, s.e)
		l, e = insert.Blockout(s.arg, api.Cell{})
		refused(t, "Blockout: "+s.what, l, e, s.e)
		l, e = insert.Open(s.arg, []api.Cell{at(0, 0, 2), at(0, 0, 1)}, 0)
		refused(t, "Open, the part: "+s.what, l, e, s.e)
		l, e = insert.Open(nil, s.arg, 0)
		refused(t, "Open, the base: "+s.what, l, e, s.e)
	}
	k, _, e := insert.Stuck([]api.Cell{at(0, 0, 1001)}, row(4097), at(0, 0, 1))
	refused(t, "the part comes before the base", k, e, api.ErrRange)
	l, e := insert.Open(row(4097), []api.Cell{at(0, 0, 1001)}, 1)
	refused(t, "the part comes before the base", l, e, api.ErrMany)
	for _, n := range []int{0, 5, -1, least, greatest} {
		l, e := insert.Fan(n)
		refused(t, "Fan", l, e, api.ErrRange)
		l, e = insert.Open(nil, nil, n)
		refused(t, "Open", l, e, api.ErrRange)
	}
}

func TestWay(t *testing.T) {
	same(t, "the way of the chapter", fine[api.Cell](t)(insert.Way(at(1, -1, 2), 3)), at(1, -2, 3))
	same(t, "no step", fine[api.Cell](t)(insert.Way(at(-8, 7, 3), 0)), at(0, 0, 0))
	same(t, "the last step", fine[api.Cell](t)(insert.Way(at(8, -8, 1), 2000)), at(16000, -16000, 2000))
	same(t, "a third to the left", fine[api.Cell](t)(insert.Way(at(-1, 1, 3), 1)), at(-1, 0, 1))
	for x := -8; x <= 8; x++ {
		for z := 1; z <= 8; z++ {
			for k := range 2001 {
				w := fine[api.Cell](t)(insert.Way(at(x, -x, z), k))
				isRight := w.X*z <= k*x && k*x < (w.X+1)*z && w.Y*z <= -k*x && -k*x < (w.Y+1)*z && w.Z == k
				if !isRight {
					t.Fatalf("after %d steps along %d %d %d: got %v", k, x, -x, z, w)
				}
			}
		}
	}
}

func TestStuckOfTheChapter(t *testing.T) {
	base := []api.Cell{at(0, 0, 0), at(1, 0, 2)}
	for _, c := range []struct {
		what       string
		part, base []api.Cell
		d          api.Cell
		k          int
		at         api.Cell
	}{
		{"B", []api.Cell{at(1, 0, 0)}, base, at(0, 0, 1), 2, at(1, 0, 2)},
		{"a part that is the base", base, base, at(0, 0, 1), 0, at(0, 0, 0)},
		{"a part that hits the base at once and later", []api.Cell{at(1, 0, 0), at(1, 0, 2)}, base, at(0, 0, 1), 0, at(1, 0, 2)},
		{"the least of two cells", []api.Cell{at(0, 0, -5), at(1, 0, -3)}, base, at(0, 0, 1), 5, at(0, 0, 0)},
		{"the first of two steps", []api.Cell{at(0, 0, -5), at(1, 0, -2)}, base, at(0, 0, 1), 4, at(1, 0, 2)},
		{"a shift by halves", []api.Cell{at(0, 0, 0)}, []api.Cell{at(1, -2, 3)}, at(1, -1, 2), 3, at(1, -2, 3)},
		{"from the lowest to the highest cell", []api.Cell{at(0, 0, -1000)}, []api.Cell{at(0, 0, 1000)}, at(0, 0, 8), 2000, at(0, 0, 1000)},
		{"from the left to the right", []api.Cell{at(-1000, 1000, -1000)}, []api.Cell{at(1000, -1000, 1000)}, at(1, -1, 1), 2000, at(1000, -1000, 1000)},
		{"a part that goes out of the grid", []api.Cell{at(-1000, 0, 0), at(1000, 0, 0)}, []api.Cell{at(-992, 0, 1)}, at(8, 0, 1), 1, at(-992, 0, 1)},
	} {
		k, there, e := insert.Stuck(c.part, c.base, c.d)
		same(t, c.what, e, api.OK)
		same(t, c.what, k, c.k)
		same(t, c.what, there, c.at)
	}
	for _, c := range []struct {
		what       string
		part, base []api.Cell
		d          api.Cell
	}{
		{"between two cells", []api.Cell{at(0, 0, 1)}, base, at(0, 0, 1)},
		{"the gap of a shift", []api.Cell{at(0, 0, 0)}, []api.Cell{at(1, 0, 1)}, at(1, 0, 2)},
		{"a base below", []api.Cell{at(0, 0, 3)}, base, at(0, 0, 1)},
		{"no part", nil, base, at(0, 0, 1)},
		{"no base", base, nil, at(0, 0, 1)},
		{"neither", nil, nil, at(8, 8, 8)},
		{"a base at 0 0 0, and no part", nil, []api.Cell{at(0, 0, 0)}, at(0, 0, 1)},
		{"a part at 0 0 0, and no base", []api.Cell{at(0, 0, 0)}, nil, at(0, 0, 1)},
	} {
		k, there, e := insert.Stuck(c.part, c.base, c.d)
		refused(t, c.what, k, e, api.ErrNone)
		same(t, c.what, there, api.Cell{})
	}
}

func TestStuck(t *testing.T) {
	r := dice()
	out := 0
	for range 3000 {
		part, base, d := randomSet(r, 6, at(-3, -3, -4), at(3, 3, 2)), randomSet(r, 30, at(-4, -4, -4), at(4, 4, 6)), randomDirection(r)
		wantedSteps, wantedCell, isStuck := stuck(part, base, d)
		k, there, e := insert.Stuck(part, base, d)
		if !isStuck {
			out++
			refused(t, "a part that gets out", k, e, api.ErrNone)
			same(t, "its cell", there, api.Cell{})
			continue
		}
		same(t, "Stuck", e, api.OK)
		same(t, "its steps", k, wantedSteps)
		same(t, "its cell", there, wantedCell)
	}
	if out < 300 || out > 2700 {
		t.Errorf("%d of 3000 parts get out", out)
	}
}

// tooLarge returns a base whose block has more cells than are searched.
func tooLarge() []api.Cell { return []api.Cell{at(0, 0, 0), at(99, 1000, 0)} }

func TestUndercutsOfTheChapter(t *testing.T) {
	base := []api.Cell{at(0, 0, 0), at(1, 0, 2)}
	for _, c := range []struct {
		what      string
		base      []api.Cell
		d         api.Cell
		undercuts []api.Cell
	}{
		{"B", base, at(0, 0, 1), []api.Cell{at(1, 0, 0), at(1, 0, 1)}},
		{"B along a tilt", base, at(-1, 0, 1), nil},
		{"B along another tilt", base, at(1, 0, 1), []api.Cell{at(0, 0, 1)}},
		{"B along a steep tilt", base, at(1, 0, 2), []api.Cell{at(1, 0, 1)}},
		{"one cell", []api.Cell{at(1000, -1000, 1000)}, at(0, 0, 1), nil},
		{"no cells", nil, at(0, 0, 1), nil},
		{"a base between undercuts", []api.Cell{at(0, 0, 0), at(0, 0, 2), at(0, 0, 4)}, at(0, 0, 1), []api.Cell{at(0, 0, 1), at(0, 0, 3)}},
		{"from one corner to the other one", []api.Cell{at(0, 0, 0), at(2, 0, 1)}, at(2, 0, 1), nil},
		{"by a gap", []api.Cell{at(0, 0, 0), at(3, 0, 0), at(3, 0, 1)}, at(2, 0, 1), []api.Cell{at(1, 0, 0)}},
	} {
		same(t, "Undercuts: "+c.what, fine[[]api.Cell](t)(insert.Undercuts(c.base, c.d)), c.undercuts)
		same(t, "Blockout: "+c.what, fine[[]api.Cell](t)(insert.Blockout(c.base, c.d)), setOf(slices.Concat(c.base, c.undercuts)...))
	}
}

// undercutsOf returns the undercuts of a base by the definition.
func undercutsOf(base []api.Cell, d api.Cell) []api.Cell {
	var l []api.Cell
	for _, c := range blockOf(base) {
		if !slices.Contains(base, c) && hits([]api.Cell{c}, base, d) {
			l = append(l, c)
		}
	}
	return l
}

func TestUndercuts(t *testing.T) {
	r := dice()
	for range 800 {
		base, d := randomSet(r, 8, at(-2, -2, -3), at(2, 2, 3)), randomDirection(r)
		wanted := undercutsOf(base, d)
		same(t, "Undercuts", fine[[]api.Cell](t)(insert.Undercuts(base, d)), wanted)
		same(t, "Blockout", fine[[]api.Cell](t)(insert.Blockout(base, d)), setOf(slices.Concat(base, wanted)...))
		if t.Failed() {
			t.Fatalf("along %v: %v", d, base)
		}
	}
}

// roof returns a row of n cells at the height h above one cell: there are n h - 1 undercuts below it.
func roof(n, h int) []api.Cell {
	l := []api.Cell{at(0, 0, 0)}
	for x := range n {
		l = append(l, at(x, 0, h))
	}
	return l
}

func TestLimitsOfUndercuts(t *testing.T) {
	up := at(0, 0, 1)
	for _, c := range []struct {
		what         string
		base         []api.Cell
		cells        int
		e            api.Errno
		cellsAndBase int
		errorOfBoth  api.Errno
	}{
		{"4096 undercuts", roof(17, 241), 4096, api.OK, 0, api.ErrMany},
		{"4097 undercuts", roof(6, 683), 0, api.ErrMany, 0, api.ErrMany},
		{"a blockout of 4096", roof(64, 63), 4031, api.OK, 4096, api.OK},
		{"a blockout of 4097", roof(17, 240), 4079, api.OK, 0, api.ErrMany},
		{"a block of 100000", []api.Cell{at(0, 0, 0), at(99, 99, 9)}, 9, api.OK, 11, api.OK},
		{"a block of 100000 at the border", []api.Cell{at(-1000, -1000, -1000), at(-1, -901, -1000)}, 0, api.OK, 2, api.OK},
		{"a block of 100100", tooLarge(), 0, api.ErrLarge, 0, api.ErrLarge},
		{"a wide block of 100100", []api.Cell{at(0, 0, 0), at(1000, 99, 0)}, 0, api.ErrLarge, 0, api.ErrLarge},
		{"a high block of 100050", []api.Cell{at(0, 0, -1000), at(24, 1, 1000)}, 0, api.ErrLarge, 0, api.ErrLarge},
		{"the greatest block", []api.Cell{at(-1000, -1000, -1000), at(1000, 1000, 1000)}, 0, api.ErrLarge, 0, api.ErrLarge},
		{"a high block", []api.Cell{at(0, 0, -1000), at(48, 0, 1000)}, 2000, api.OK, 2002, api.OK},
		{"a block of 4096 undercuts and more that is too large", append(roof(17, 250), at(1000, 1000, 1000)), 0, api.ErrLarge, 0, api.ErrLarge},
	} {
		l, e := insert.Undercuts(c.base, up)
		same(t, "Undercuts: "+c.what, e, c.e)
		same(t, "Undercuts: "+c.what, len(l), c.cells)
		l, e = insert.Blockout(c.base, up)
		same(t, "Blockout: "+c.what, e, c.errorOfBoth)
		same(t, "Blockout: "+c.what, len(l), c.cellsAndBase)
	}
	// Below the end of the fifth row, all cells but the highest one come to the fourth row.
	same(t, "a base of 4096 cells", len(fine[[]api.Cell](t)(insert.Undercuts(row(4096), at(-1, 0, 1)))), 903)
	l, e := insert.Blockout(row(4096), at(-1, 0, 1))
	refused(t, "a base of 4096 cells, and its undercuts", l, e, api.ErrMany)
	same(t, "a base of 4096 cells, without undercuts", len(fine[[]api.Cell](t)(insert.Blockout(row(4096), at(1, 0, 1)))), 4096)
}

func TestFan(t *testing.T) {
	for n := 1; n <= insert.MaxFan; n++ {
		var wanted []api.Cell
		for x := -n; x <= n; x++ {
			for y := -n; y <= n; y++ {
				wanted = append(wanted, at(x, y, n))
			}
		}
		same(t, "Fan", fine[[]api.Cell](t)(insert.Fan(n)), wanted)
		same(t, "a part without a base", fine[[]api.Cell](t)(insert.Open([]api.Cell{at(0, 0, 0)}, nil, n)), wanted)
		same(t, "no part", fine[[]api.Cell](t)(insert.Open(nil, []api.Cell{at(0, 0, 0)}, n)), wanted)
		same(t, "a part within the base", fine[[]api.Cell](t)(insert.Open([]api.Cell{at(0, 0, 0)}, []api.Cell{at(0, 0, 0)}, n)), nil)
	}
	fan := fine[[]api.Cell](t)(insert.Fan(1))
	fan[0] = at(7, 7, 7)
	same(t, "another fan", fine[[]api.Cell](t)(insert.Fan(1))[0], at(-1, -1, 1))
}

func TestOpen(t *testing.T) {
	base := []api.Cell{at(0, 0, 0), at(1, 0, 2)}
	fan := fine[[]api.Cell](t)(insert.Fan(1))
	same(t, "the chapter's part", fine[[]api.Cell](t)(insert.Open([]api.Cell{at(1, 0, 1)}, base, 1)), slices.Delete(slices.Clone(fan), 4, 5))
	r := dice()
	for range 300 {
		n := between(r, 1, 4)
		part, base := randomSet(r, 4, at(-2, -2, -2), at(2, 2, 2)), randomSet(r, 12, at(-4, -4, 0), at(4, 4, 5))
		var wanted []api.Cell
		for _, d := range fine[[]api.Cell](t)(insert.Fan(n)) {
			if !hits(part, base, d) {
				wanted = append(wanted, d)
			}
		}
		same(t, "Open", fine[[]api.Cell](t)(insert.Open(part, base, n)), wanted)
	}
}

// TestLargestWays has sets of the greatest size, from one end of the grid to the other one.
func TestLargestWays(t *testing.T) {
	var part, base []api.Cell
	for i := range 4002 {
		part = append(part, at(0, i/2001, i%2001-1000))
		base = append(base, at(1, i/2001, i%2001-1000))
	}
	up := at(0, 0, 1)
	k, _, e := insert.Stuck(part, base, up)
	refused(t, "side by side", k, e, api.ErrNone)
	k, there, e := insert.Stuck(part, base, at(1, 0, 8))
	same(t, "a tilt", e, api.OK)
	same(t, "its steps", k, 8)
	same(t, "its cell", there, at(1, 0, -992))
	k, there, e = insert.Stuck(part, []api.Cell{at(0, 1, 1000)}, up)
	same(t, "a cell of the part", e, api.OK)
	same(t, "its steps", k, 0)
	same(t, "its cell", there, at(0, 1, 1000))
	var wanted []api.Cell
	for _, d := range fine[[]api.Cell](t)(insert.Fan(4)) {
		isOpen := true
		for k := range 8 {
			by := shift(d, k)
			isOpen = isOpen && (by.X != 1 || by.Y < -1 || by.Y > 1)
		}
		if isOpen {
			wanted = append(wanted, d)
		}
	}
	same(t, "Open", fine[[]api.Cell](t)(insert.Open(part, base, 4)), wanted)
	k, there, e = insert.Stuck(row(4096), row(4096), up)
	same(t, "the greatest sets", e, api.OK)
	same(t, "their steps", k, 0)
	same(t, "their cell", there, at(0, 0, 0))
}

func TestWaysKeepTheirArguments(t *testing.T) {
	part, base := []api.Cell{at(1, 0, 0)}, []api.Cell{at(0, 0, 0), at(1, 0, 2)}
	insert.Stuck(part, base, at(0, 0, 1))
	l := fine[[]api.Cell](t)(insert.Blockout(base, at(-1, 0, 1)))
	l[0] = at(9, 9, 9)
	u := fine[[]api.Cell](t)(insert.Undercuts(base, at(0, 0, 1)))
	u[0] = at(9, 9, 9)
	o := fine[[]api.Cell](t)(insert.Open(part, base, 1))
	o[0] = at(9, 9, 9)
	same(t, "the part", part, []api.Cell{at(1, 0, 0)})
	same(t, "the base", base, []api.Cell{at(0, 0, 0), at(1, 0, 2)})
	same(t, "another result", fine[[]api.Cell](t)(insert.Undercuts(base, at(0, 0, 1)))[0], at(1, 0, 0))
	same(t, "another result", fine[[]api.Cell](t)(insert.Open(part, base, 1))[0], at(-1, -1, 1))
}
