package insert_test

import (
	"math/big"
	"slices"
	"strings"
	"testing"

	"cusp/api"
	"cusp/insert"
)

func tilt(x, y string) insert.Tilt { return insert.Tilt{X: api.Rat(x), Y: api.Rat(y)} }

func tiltsOf(polygon []point) []insert.Tilt {
	var l []insert.Tilt
	for _, p := range polygon {
		l = append(l, p.tilt())
	}
	return l
}

func TestErrorsOfWalls(t *testing.T) {
	for _, w := range faultyWalls() {
		same(t, "CheckWalls: "+w.what, insert.CheckWalls(w.arg), w.e)
		// The walls come first: the other arguments are faulty, too.
		is, e := insert.Permits(w.arg, 0, tilt("", ""))
		refused(t, "Permits: "+w.what, is, e, w.e)
		l, e := insert.Hinders(w.arg, 0, tilt("", ""))
		refused(t, "Hinders: "+w.what, l, e, w.e)
		c, e := insert.Tilts(w.arg, 0)
		refused(t, "Tilts: "+w.what, c, e, w.e)
		m, e := insert.Middle(w.arg, 0)
		refused(t, "Middle: "+w.what, m, e, w.e)
	}
	same(t, "no walls", insert.CheckWalls(nil), api.OK)
	same(t, "as many walls as permitted", insert.CheckWalls(many(64, at(0, 0, 1))), api.OK)
	same(t, "walls of the greatest size", insert.CheckWalls([]api.Cell{at(1000, -1000, 1000), at(-1000, 1000, -1000), at(0, 0, -1)}), api.OK)
}

func TestErrorsOfLimits(t *testing.T) {
	for _, steep := range faultyLimits() {
		is, e := insert.Permits(chapter(), steep, tilt("", ""))
		refused(t, "Permits", is, e, api.ErrRange)
		l, e := insert.Hinders(chapter(), steep, tilt("", ""))
		refused(t, "Hinders", l, e, api.ErrRange)
		c, e := insert.Tilts(chapter(at(0, 0, -1)), steep)
		refused(t, "Tilts", c, e, api.ErrRange)
		m, e := insert.Middle(chapter(at(0, 0, -1)), steep)
		refused(t, "Middle", m, e, api.ErrRange)
	}
}

func TestErrorsOfTilts(t *testing.T) {
	for _, n := range faultyNumbers() {
		for _, bad := range []insert.Tilt{{X: n.arg, Y: "0"}, {X: "0", Y: n.arg}, {X: n.arg, Y: n.arg}} {
			is, e := insert.Permits(chapter(), 2, bad)
			refused(t, "Permits: "+n.what, is, e, n.e)
			l, e := insert.Hinders(chapter(), 2, bad)
			refused(t, "Hinders: "+n.what, l, e, n.e)
		}
	}
	is, e := insert.Permits(nil, 1, insert.Tilt{X: "1/1", Y: api.Rat(nines(601))})
	refused(t, "the error of X comes first", is, e, api.ErrForm)
	l, e := insert.Hinders(nil, 1, insert.Tilt{X: api.Rat(nines(601)), Y: "1/1"})
	refused(t, "the error of X comes first", l, e, api.ErrLarge)
}

func TestPermitsAndHindersOfTheChapter(t *testing.T) {
	for _, c := range []struct {
		t        insert.Tilt
		hindered []int
	}{
		{tilt("1/2", "0"), nil},
		{tilt("0", "-1"), nil},
		{tilt("1", "1"), nil},
		{tilt("3/2", "0"), []int{1}},
		{tilt("3", "0"), []int{1, 5}},
		{tilt("-3", "0"), []int{0, 4}},
		{tilt("0", "3"), []int{3, 7}},
		{tilt("1", "-3"), []int{2, 6}},
		{tilt("-5", "-5"), []int{0, 2, 4, 6}},
		{tilt("-1/1000000000000000000000000000000", "0"), []int{0}},
	} {
		same(t, "Hinders", fine[[]int](t)(insert.Hinders(chapter(), 2, c.t)), c.hindered)
		same(t, "Permits", fine[bool](t)(insert.Permits(chapter(), 2, c.t)), c.hindered == nil)
	}
	same(t, "no wall permits below the limit", fine[[]int](t)(insert.Hinders([]api.Cell{at(0, 0, -1), at(0, 0, 1)}, 1, tilt("0", "0"))), []int{0})
	same(t, "the limit alone", fine[bool](t)(insert.Permits(nil, 8, tilt("-8", "8"))), true)
	same(t, "beyond the limit", fine[[]int](t)(insert.Hinders(nil, 8, tilt("-9", "65/8"))), []int{0, 3})
}

// TestPermitsAndHinders compares with the heights of the tilts above the walls.
func TestPermitsAndHinders(t *testing.T) {
	r := dice()
	for range 1500 {
		steep := between(r, 1, 8)
		walls := randomWalls(r, 12, []int{2, 1000}[r.IntN(2)])
		p := point{ratio(between(r, -9, 9), between(r, 1, 3)), ratio(between(r, -9, 9), between(r, 1, 3))}
		var hindered []int
		for i, w := range limited(walls, steep) {
			if height(w, p).Sign() < 0 {
				hindered = append(hindered, i)
			}
		}
		same(t, "Hinders", fine[[]int](t)(insert.Hinders(walls, steep, p.tilt())), hindered)
		same(t, "Permits", fine[bool](t)(insert.Permits(walls, steep, p.tilt())), len(hindered) == 0)
	}
}

// TestTiltsWithManyDigits has tilts on a wall, and so near to it that sums and products have twice the digits of a number.
func TestTiltsWithManyDigits(t *testing.T) {
	r := dice()
	for range 40 {
		a, b := between(r, 1, 1000), between(r, 1, 1000)
		walls := []api.Cell{at(a, -b, 0), at(-a, b, 0)}
		top, _ := new(big.Int).SetString("1"+strings.Repeat("7", 595), 10)
		bottom, _ := new(big.Int).SetString("3"+strings.Repeat("1", 594), 10)
		x := new(big.Rat).SetFrac(top, bottom)
		on := point{new(big.Rat).Mul(x, ratio(b, 1000)), new(big.Rat).Mul(x, ratio(a, 1000))}
		same(t, "on both walls", fine[[]int](t)(insert.Hinders(walls, 8, on.tilt())), nil)
		same(t, "on both walls", fine[bool](t)(insert.Permits(walls, 8, on.tilt())), true)
		// Another fraction that is as near as fractions of so many digits can be.
		nearBy := new(big.Rat).SetFrac(new(big.Int).Add(on.x.Num(), big.NewInt(1)), on.x.Denom())
		right := point{nearBy, on.y}
		same(t, "right of both walls", fine[[]int](t)(insert.Hinders(walls, 8, right.tilt())), []int{1})
		same(t, "right of both walls", fine[bool](t)(insert.Permits(walls, 8, right.tilt())), false)
	}
	huge, tiny := nines(600), "1/"+nines(600)
	same(t, "huge", fine[[]int](t)(insert.Hinders([]api.Cell{at(1000, -1000, 0), at(1000, -1000, -1)}, 1, tilt(huge, huge))), []int{1, 3, 5})
	same(t, "huge, below 0", fine[[]int](t)(insert.Hinders([]api.Cell{at(1000, 1000, 1), at(999, 1000, -1000)}, 1, tilt("-"+huge, huge))), []int{2, 5})
	same(t, "tiny", fine[[]int](t)(insert.Hinders([]api.Cell{at(-1, 0, 0), at(1, -1, 0), at(-1000, 0, 1)}, 1, tilt(tiny, tiny))), []int{0})
}

func TestTiltsOfTheChapter(t *testing.T) {
	for _, c := range []struct {
		what    string
		walls   []api.Cell
		steep   int
		corners []insert.Tilt
		middle  insert.Tilt
	}{
		{"W", chapter(), 2, []insert.Tilt{tilt("0", "-1"), tilt("1", "-1"), tilt("1", "1"), tilt("0", "1")}, tilt("1/2", "0")},
		{"a segment", []api.Cell{at(1, 0, 0), at(-1, 0, 0)}, 2, []insert.Tilt{tilt("0", "-2"), tilt("0", "2")}, tilt("0", "0")},
		{"a segment from the left to the right", []api.Cell{at(1, -2, 1), at(-1, 2, -1)}, 3, []insert.Tilt{tilt("-3", "-1"), tilt("3", "2")}, tilt("0", "1/2")},
		{"a point", chapter(at(1, 0, -1), at(0, 1, -1)), 2, []insert.Tilt{tilt("1", "1")}, tilt("1", "1")},
		{"a point of the limit", []api.Cell{at(1, 1, -16)}, 8, []insert.Tilt{tilt("8", "8")}, tilt("8", "8")},
		{"no walls", nil, 1, []insert.Tilt{tilt("-1", "-1"), tilt("1", "-1"), tilt("1", "1"), tilt("-1", "1")}, tilt("0", "0")},
		{"a wall that is always kept", []api.Cell{at(0, 0, 1)}, 8, []insert.Tilt{tilt("-8", "-8"), tilt("8", "-8"), tilt("8", "8"), tilt("-8", "8")}, tilt("0", "0")},
		{"a corner that is cut off", []api.Cell{at(-3, -2, 1)}, 1, []insert.Tilt{tilt("-1", "-1"), tilt("1", "-1"), tilt("-1/3", "1"), tilt("-1", "1")}, tilt("-1/3", "0")},
		{"a triangle whose least corner is above another one", []api.Cell{at(1, 1, 0), at(-1, -1, 2)}, 1, []insert.Tilt{tilt("-1", "1"), tilt("1", "-1"), tilt("1", "1")}, tilt("1/3", "1/3")},
		{"walls through one corner", []api.Cell{at(1, 0, 1), at(1, 1, 2), at(2, 1, 3), at(1, 2, 3)}, 1, []insert.Tilt{tilt("-1", "-1"), tilt("1", "-1"), tilt("1", "1"), tilt("-1", "1")}, tilt("0", "0")},
	} {
		same(t, "Tilts: "+c.what, fine[[]insert.Tilt](t)(insert.Tilts(c.walls, c.steep)), c.corners)
		same(t, "Middle: "+c.what, fine[insert.Tilt](t)(insert.Middle(c.walls, c.steep)), c.middle)
	}
	for _, walls := range [][]api.Cell{chapter(at(1, 0, -2)), {at(0, 0, -1)}, {at(1, 0, -1), at(-1, 1, 0), at(0, -1, 0)}, {at(1, 0, -9)}, {at(100, 100, -401)}} {
		c, e := insert.Tilts(walls, 2)
		refused(t, "Tilts of none", c, e, api.ErrInfeasible)
		m, e := insert.Middle(walls, 2)
		refused(t, "Middle of none", m, e, api.ErrInfeasible)
	}
}

// compareTilts compares Tilts and Middle with the polygon of the definition, and returns how many corners it has.
func compareTilts(t *testing.T, walls []api.Cell, steep int) int {
	t.Helper()
	polygon := polygonOf(walls, steep)
	if polygon == nil {
		c, e := insert.Tilts(walls, steep)
		refused(t, "Tilts of none", c, e, api.ErrInfeasible)
		m, e := insert.Middle(walls, steep)
		refused(t, "Middle of none", m, e, api.ErrInfeasible)
		return 0
	}
	same(t, "Tilts", fine[[]insert.Tilt](t)(insert.Tilts(walls, steep)), tiltsOf(polygon))
	x, y := new(big.Rat), new(big.Rat)
	for _, p := range polygon {
		x.Add(x, p.x)
		y.Add(y, p.y)
	}
	count := ratio(1, len(polygon))
	same(t, "Middle", fine[insert.Tilt](t)(insert.Middle(walls, steep)), point{x.Mul(x, count), y.Mul(y, count)}.tilt())
	return len(polygon)
}

func TestTilts(t *testing.T) {
	r := dice()
	seen := map[int]int{}
	for i := range 4000 {
		walls := randomWalls(r, 8, []int{1, 2, 3, 9, 1000}[i%5])
		seen[compareTilts(t, walls, between(r, 1, 8))]++
		if t.Failed() {
			t.Fatalf("with the walls %v", walls)
		}
	}
	for corners := range 7 {
		if seen[corners] < 20 {
			t.Errorf("%d corners were seen %d times", corners, seen[corners])
		}
	}
}

// roundWalls returns n walls around nearly a circle.
func roundWalls(n int) []api.Cell {
	var ring []api.Cell
	for x := -1000; x <= 1000; x++ {
		y := 0
		for (y+1)*(y+1)+x*x <= 1000*1000 {
			y++
		}
		ring = append(ring, at(x, y, 999), at(x, -y, 998))
	}
	var walls []api.Cell
	for i := range n {
		walls = append(walls, ring[i*len(ring)/n])
	}
	return walls
}

// TestTiltsOfManyWalls has many corners, with denominators that make a mean of hundreds of digits.
func TestTiltsOfManyWalls(t *testing.T) {
	walls := roundWalls(64)
	if n := compareTilts(t, walls, 8); n < 40 {
		t.Errorf("only %d corners", n)
	}
	if m := fine[insert.Tilt](t)(insert.Middle(walls, 8)); len(m.X) < 200 {
		t.Errorf("only %d bytes of a mean", len(m.X))
	}
	r := dice()
	for range 30 {
		r.Shuffle(len(walls), func(i, k int) { walls[i], walls[k] = walls[k], walls[i] })
		compareTilts(t, walls[:between(r, 30, 64)], between(r, 1, 8))
	}
}

// TestLargestCorners has walls whose corners have the greatest numbers: products of three of them do not fit 64 bits.
func TestLargestCorners(t *testing.T) {
	compareTilts(t, []api.Cell{at(-984, 972, 992), at(993, -982, 973), at(979, 985, 983), at(-975, -991, 987), at(988, -956, 983), at(-994, 996, 997)}, 8)
	r := dice()
	large := func() int { return between(r, 940, 1000) }
	for range 300 {
		var walls []api.Cell
		for range 6 {
			walls = append(walls, at(large()*(1-2*r.IntN(2)), large()*(1-2*r.IntN(2)), large()))
		}
		compareTilts(t, walls, 8)
	}
}

func TestTiltsKeepTheirArguments(t *testing.T) {
	walls := chapter(at(3, 2, 1))
	copied := slices.Clone(walls)
	c := fine[[]insert.Tilt](t)(insert.Tilts(walls, 2))
	d := fine[[]insert.Tilt](t)(insert.Tilts(walls, 2))
	h := fine[[]int](t)(insert.Hinders(walls, 2, tilt("-4", "7")))
	i := fine[[]int](t)(insert.Hinders(walls, 2, tilt("-4", "7")))
	c[0], h[0] = tilt("5", "5"), 99
	same(t, "another result", d[0], tilt("0", "-1/2"))
	same(t, "another result", i[0], 0)
	fine[insert.Tilt](t)(insert.Middle(walls, 2))
	same(t, "the walls", walls, copied)
	// Spare capacity behind the walls is no place for those of the limit.
	spare := append(make([]api.Cell, 0, 16), copied...)
	fine[[]insert.Tilt](t)(insert.Tilts(spare, 2))
	same(t, "behind the walls", spare[:16][5:], make([]api.Cell, 11))
}
