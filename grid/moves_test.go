package grid_test

import (
	"testing"

	"cusp/api"
	"cusp/grid"
)

// turnTexts returns what the turns make of x, y, z, in their order: a capital letter has its sign changed.
func turnTexts() []string {
	return []string{
		"xyz", "xYZ", "xzY", "xZy", "XyZ", "XYz", "Xzy", "XZY",
		"yxZ", "yXz", "yzx", "yZX", "Yxz", "YXZ", "YzX", "YZx",
		"zxy", "zXY", "zyX", "zYx", "ZxY", "ZXy", "Zyx", "ZYX",
	}
}

// turned returns what a turn makes of a cell about 0, 0, 0.
func turned(c api.Cell, n int) api.Cell {
	var v [3]int
	for i, letter := range turnTexts()[n] {
		v[i] = map[rune]int{'x': c.X, 'X': -c.X, 'y': c.Y, 'Y': -c.Y, 'z': c.Z, 'Z': -c.Z}[letter]
	}
	return at(v[0], v[1], v[2])
}

func TestShift(t *testing.T) {
	sameList(t, "Shift", fine[[]api.Cell](t)(grid.Shift(corner(), at(-1, 2, 3))), []api.Cell{at(-1, 2, 3), at(0, 2, 3), at(0, 3, 3)})
	sameList(t, "Shift across the grid", fine[[]api.Cell](t)(grid.Shift([]api.Cell{at(-1000, -1000, 1000)}, at(2000, 2000, -2000))), []api.Cell{at(1000, 1000, -1000)})
	sameList(t, "Shift of nothing", fine[[]api.Cell](t)(grid.Shift(nil, at(2000, -2000, 2000))), nil)
	for _, by := range []api.Cell{at(2001, 0, 0), at(0, -2001, 0), at(0, 0, 2001), at(least, 0, 0), at(0, greatest, 0)} {
		got, e := grid.Shift(nil, by)
		refused(t, "Shift of nothing", got, e, api.ErrRange)
		got, e = grid.Shift(badSets()[api.ErrOrder], by)
		refused(t, "Shift of no set", got, e, api.ErrOrder)
	}
	for _, by := range []api.Cell{at(1000, 0, 0), at(-1001, 0, 0), at(0, 1000, 0), at(0, -1001, 0), at(0, 0, 1001), at(0, 0, -1001)} {
		got, e := grid.Shift(corner(), by)
		refused(t, "Shift too far", got, e, api.ErrRange)
	}
	same(t, "Shift to the border", fine[[]api.Cell](t)(grid.Shift(corner(), at(999, 999, -1000)))[2], at(1000, 1000, -1000))
}

func TestTurn(t *testing.T) {
	for n := range 24 {
		sameList(t, "Turn", fine[[]api.Cell](t)(grid.Turn([]api.Cell{at(1, 2, 3)}, n, at(0, 0, 0))), []api.Cell{turned(at(1, 2, 3), n)})
		about := at(5, -7, 11)
		var want []api.Cell
		for _, c := range corner() {
			d := turned(at(c.X-5, c.Y+7, c.Z-11), n)
			want = append(want, at(d.X+5, d.Y-7, d.Z+11))
		}
		sameList(t, "Turn about a cell", fine[[]api.Cell](t)(grid.Turn(corner(), n, about)), ordered(want))
	}
	sameList(t, "Turn", fine[[]api.Cell](t)(grid.Turn(corner(), 5, at(1, 0, 0))), []api.Cell{at(1, -1, 0), at(1, 0, 0), at(2, 0, 0)})
	sameList(t, "Turn of nothing", fine[[]api.Cell](t)(grid.Turn(nil, 23, at(1000, -1000, 1000))), nil)
	for _, row := range []struct {
		l     []api.Cell
		n     int
		about api.Cell
		e     api.Errno
	}{
		{nil, 24, at(0, 0, 0), api.ErrRange}, {nil, -1, at(0, 0, 0), api.ErrRange}, {nil, least, at(0, 0, 0), api.ErrRange}, {nil, greatest, at(0, 0, 0), api.ErrRange}, {nil, 0, at(0, 0, 1001), api.ErrRange}, {nil, 0, at(least, 0, 0), api.ErrRange},
		{badSets()[api.ErrOrder], 24, at(0, 0, 1001), api.ErrOrder}, {badSets()[api.ErrMany], 0, at(0, 0, 1001), api.ErrMany},
		{[]api.Cell{at(0, 0, 0)}, 5, at(501, 0, 0), api.ErrRange}, {[]api.Cell{at(0, 0, 0)}, 1, at(0, -501, 0), api.ErrRange}, {[]api.Cell{at(1000, 0, 0)}, 4, at(-1, 0, 0), api.ErrRange},
	} {
		got, e := grid.Turn(row.l, row.n, row.about)
		refused(t, "Turn", got, e, row.e)
	}
	sameList(t, "Turn to the border", fine[[]api.Cell](t)(grid.Turn(origin(), 5, at(500, -500, 0))), []api.Cell{at(1000, -1000, 0)})
}

func TestTwice(t *testing.T) {
	c := at(1, 2, 3)
	for m := range 24 {
		for n := range 24 {
			both := fine[int](t)(grid.Twice(m, n))
			if both < 0 || both > 23 {
				t.Fatalf("Twice returns %d", both)
			}
			same(t, "Twice", turned(c, both), turned(turned(c, m), n))
		}
	}
	for _, row := range [][3]int{{10, 10, 16}, {10, 16, 0}, {0, 7, 7}, {2, 3, 0}, {1, 4, 5}, {1, 8, 12}, {8, 1, 9}} {
		same(t, "Twice", fine[int](t)(grid.Twice(row[0], row[1])), row[2])
	}
	for _, row := range [][2]int{{24, 0}, {0, 24}, {-1, 0}, {0, -1}, {least, greatest}, {greatest, least}} {
		got, e := grid.Twice(row[0], row[1])
		refused(t, "Twice", got, e, api.ErrRange)
	}
}

func TestMirror(t *testing.T) {
	sameList(t, "Mirror at X", fine[[]api.Cell](t)(grid.Mirror(corner(), 0, 0)), []api.Cell{at(-1, 0, 0), at(-1, 1, 0), at(0, 0, 0)})
	sameList(t, "Mirror at X", fine[[]api.Cell](t)(grid.Mirror(corner(), 0, 4)), []api.Cell{at(7, 0, 0), at(7, 1, 0), at(8, 0, 0)})
	sameList(t, "Mirror at Y", fine[[]api.Cell](t)(grid.Mirror(corner(), 1, -3)), []api.Cell{at(0, -6, 0), at(1, -7, 0), at(1, -6, 0)})
	sameList(t, "Mirror at Z", fine[[]api.Cell](t)(grid.Mirror(corner(), 2, 5)), []api.Cell{at(0, 0, 10), at(1, 0, 10), at(1, 1, 10)})
	sameList(t, "Mirror of nothing", fine[[]api.Cell](t)(grid.Mirror(nil, 2, -1000)), nil)
	sameList(t, "Mirror to the border", fine[[]api.Cell](t)(grid.Mirror(origin(), 1, -500)), []api.Cell{at(0, -1000, 0)})
	for _, row := range []struct {
		l        []api.Cell
		axis, at int
		e        api.Errno
	}{
		{nil, 3, 0, api.ErrRange}, {nil, -1, 0, api.ErrRange}, {nil, least, 0, api.ErrRange}, {nil, greatest, 0, api.ErrRange}, {nil, 0, 1001, api.ErrRange}, {nil, 0, -1001, api.ErrRange}, {nil, 0, least, api.ErrRange}, {nil, 0, greatest, api.ErrRange}, {origin(), 0, 501, api.ErrRange}, {origin(), 1, -501, api.ErrRange}, {origin(), 2, 501, api.ErrRange}, {badSets()[api.ErrOrder], 3, 1001, api.ErrOrder}, {badSets()[api.ErrMany], 3, 1001, api.ErrMany},
	} {
		got, e := grid.Mirror(row.l, row.axis, row.at)
		refused(t, "Mirror", got, e, row.e)
	}
}
