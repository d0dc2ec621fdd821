package restore_test

import (
	"slices"
	"testing"

	"cusp/api"
	"cusp/restore"
)

// ring returns the cells around a cell at its height.
func ring(c api.Cell) []api.Cell {
	return without(block(plus(c, at(-1, -1, 0)), plus(c, at(1, 1, 0))), []api.Cell{c})
}

func TestMarginOfTheChapter(t *testing.T) {
	stump := sample().Stump
	margin := fine[[]api.Cell](t)(restore.Margin(stump, 0))
	same(t, "the margin", margin, ring(at(0, 0, 0)))
	same(t, "a closed line", restore.CheckMargin(margin), api.OK)
	for i := range margin {
		same(t, "a cell less", restore.CheckMargin(slices.Delete(slices.Clone(margin), i, i+1)), api.ErrOpen)
	}
	same(t, "the margin above", fine[[]api.Cell](t)(restore.Margin(stump, 1)), ring(at(0, 0, 1)))
	l, e := restore.Margin(stump, 2)
	refused(t, "above the stump", l, e, api.ErrNone)
}

func TestErrorsOfMargins(t *testing.T) {
	for _, s := range faultySets() {
		l, e := restore.Margin(s.arg, 1001)
		refused(t, "Margin, "+s.what, l, e, s.e)
		same(t, "CheckMargin, "+s.what, restore.CheckMargin(s.arg), s.e)
	}
	for _, n := range outOf(-1000, 1000) {
		l, e := restore.Margin(sample().Stump, n)
		refused(t, "a height", l, e, api.ErrRange)
		l, e = restore.Margin(nil, n)
		refused(t, "a height, and no stump", l, e, api.ErrRange)
	}
	for _, c := range []struct {
		what   string
		stump  []api.Cell
		height int
		e      api.Errno
	}{
		{"no stump", nil, 0, api.ErrNone},
		{"a stump above and below", []api.Cell{at(1000, 0, -1), at(1000, 0, 1)}, 0, api.ErrNone},
		{"at the right border", []api.Cell{at(1000, 0, 0)}, 0, api.ErrRange},
		{"at the left border", []api.Cell{at(-1000, 0, 0)}, 0, api.ErrRange},
		{"at the front", []api.Cell{at(0, -1000, 0)}, 0, api.ErrRange},
		{"at the back", []api.Cell{at(0, 1000, 0)}, 0, api.ErrRange},
		{"at the border of another height", []api.Cell{at(-1000, 0, 1), at(0, 0, 0)}, 0, api.OK},
		{"at the top", []api.Cell{at(0, 0, 1000)}, 1000, api.OK},
		{"at the bottom", []api.Cell{at(0, 0, -1000)}, -1000, api.OK},
		{"up to the right border", []api.Cell{at(999, -999, 5)}, 5, api.OK},
		{"up to the left border", []api.Cell{at(-999, 999, 5)}, 5, api.OK},
	} {
		l, e := restore.Margin(c.stump, c.height)
		if c.e != api.OK {
			refused(t, "Margin: "+c.what, l, e, c.e)
			continue
		}
		same(t, "Margin: "+c.what, e, api.OK)
		same(t, "Margin: "+c.what, len(l), 8)
	}
}

func TestMargin(t *testing.T) {
	r := dice()
	for range 600 {
		stump, height := randomSet(r, 25, at(-3, -3, -1), at(3, 3, 1)), between(r, -1, 1)
		before := slices.Clone(stump)
		here := where(stump, func(c api.Cell) bool { return c.Z == height })
		l, e := restore.Margin(stump, height)
		if len(here) == 0 {
			refused(t, "Margin", l, e, api.ErrNone)
			continue
		}
		wanted := where(block(at(-5, -5, height), at(5, 5, height)), func(c api.Cell) bool {
			return !slices.Contains(here, c) && slices.ContainsFunc(here, func(d api.Cell) bool {
				return max(c.X-d.X, d.X-c.X) <= 1 && max(c.Y-d.Y, d.Y-c.Y) <= 1
			})
		})
		same(t, "Margin", e, api.OK)
		same(t, "Margin", l, wanted)
		same(t, "the stump afterwards", stump, before)
	}
	// Each cell of a scattered stump has a margin of its own: all together have more cells than a set.
	var scattered []api.Cell
	for i := range 4096 {
		scattered = append(scattered, at(i/64*3, i%64*3, 7))
	}
	l := fine[[]api.Cell](t)(restore.Margin(scattered, 7))
	same(t, "a large margin", len(slices.Compact(slices.Clone(l))), 8*4096)
	same(t, "in its order", slices.IsSortedFunc(l, compare), true)
}

func TestCheckMargin(t *testing.T) {
	around := slices.Concat(ring(at(0, 0, 0)), ring(at(5, 0, 0)))
	eight := without(block(at(0, 0, 0), at(4, 4, 0)), []api.Cell{at(1, 1, 0), at(3, 3, 0), at(1, 3, 0), at(3, 1, 0)})
	inwards := without(block(at(0, 0, 0), at(4, 4, 0)), slices.Concat(block(at(1, 1, 0), at(1, 3, 0)), block(at(2, 1, 0), at(3, 1, 0)), block(at(3, 3, 0), at(4, 4, 0))))
	for _, c := range []struct {
		what string
		l    []api.Cell
		e    api.Errno
	}{
		{"no cells", nil, api.ErrEmpty},
		{"no cells in a list", []api.Cell{}, api.ErrEmpty},
		{"one cell", []api.Cell{at(0, 0, 0)}, api.ErrOpen},
		{"two cells", block(at(0, 0, 0), at(1, 0, 0)), api.ErrOpen},
		{"two cells of two heights", block(at(0, 0, 0), at(0, 0, 1)), api.ErrShape},
		{"four cells of two heights, two neighbours each", block(at(0, 0, 0), at(1, 0, 1)), api.ErrShape},
		{"a closed line, and a cell above", append(ring(at(0, 0, 0)), at(2, 2, 1)), api.ErrShape},
		{"a cell below, and a closed line", append([]api.Cell{at(-9, 0, -1)}, ring(at(0, 0, 0))...), api.ErrShape},
		{"four cells", block(at(0, 0, 9), at(1, 1, 9)), api.OK},
		{"six cells", block(at(0, 0, 9), at(2, 1, 9)), api.ErrOpen},
		{"a ring", ring(at(-999, 999, 1000)), api.OK},
		{"two rings", setOf(around...), api.ErrOpen},
		{"two rings with a common side", eight, api.ErrOpen},
		{"a filled ring", block(at(-1, -1, 0), at(1, 1, 0)), api.ErrOpen},
		{"a ring with a tail", append(ring(at(0, 0, 0)), at(2, 0, 0)), api.ErrOpen},
		{"a row", block(at(0, 0, 0), at(0, 9, 0)), api.ErrOpen},
		{"a long ring", without(block(at(-500, 0, 0), at(500, 2, 0)), block(at(-499, 1, 0), at(499, 1, 0))), api.OK},
		{"a ring at the border", without(block(at(997, 997, 0), at(1000, 1000, 0)), block(at(998, 998, 0), at(999, 999, 0))), api.OK},
		{"a line with a corner inwards", inwards, api.OK},
		{"lines that meet at an edge of cells", setOf(append(ring(at(0, 0, 0)), ring(at(3, 3, 0))...)...), api.ErrOpen},
	} {
		same(t, "CheckMargin: "+c.what, restore.CheckMargin(c.l), c.e)
	}
	r := dice()
	closed := 0
	for range 20000 {
		l := randomSet(r, 20, at(0, 0, 0), at(3, 3, 0))
		if r.IntN(2) == 0 {
			l = some(r, ring(at(1, 1, 0)), 31, 32)
			l = setOf(append(l, some(r, ring(at(2, 1, 0)), 1, 32)...)...)
		}
		wanted := api.OK
		isOnLine := func(c api.Cell) bool { return len(besides(c, l)) == 2 }
		switch {
		case len(l) == 0:
			wanted = api.ErrEmpty
		case len(where(l, isOnLine)) < len(l) || !isOne(l):
			wanted = api.ErrOpen
		default:
			closed++
		}
		same(t, "CheckMargin", restore.CheckMargin(l), wanted)
	}
	if closed < 1000 {
		t.Errorf("only %d lines are closed", closed)
	}
}
