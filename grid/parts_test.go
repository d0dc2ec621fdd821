package grid_test

import (
	"slices"
	"testing"

	"cusp/api"
	"cusp/grid"
)

// partsOf joins lists of cells as long as two of them have cells that belong together.
func partsOf(l []api.Cell, together func(a, b api.Cell) bool) [][]api.Cell {
	var all [][]api.Cell
	for _, c := range l {
		joined := []api.Cell{c}
		var rest [][]api.Cell
		for _, p := range all {
			if slices.ContainsFunc(p, func(d api.Cell) bool { return together(c, d) }) {
				joined = append(joined, p...)
			} else {
				rest = append(rest, p)
			}
		}
		all = append(rest, ordered(joined))
	}
	slices.SortFunc(all, func(a, b []api.Cell) int {
		return slices.Compare([]int{a[0].X, a[0].Y, a[0].Z}, []int{b[0].X, b[0].Y, b[0].Z})
	})
	return all
}

func neighbours(a, b api.Cell) bool { return distance(a, b) == 1 }

// grown returns all cells that are at most n steps from a cell of a set.
func grown(l []api.Cell, n int) []api.Cell {
	var all []api.Cell
	for _, c := range l {
		for x := -n; x <= n; x++ {
			for y := -n; y <= n; y++ {
				for z := -n; z <= n; z++ {
					if distance(at(x, y, z), at(0, 0, 0)) <= n {
						all = append(all, at(c.X+x, c.Y+y, c.Z+z))
					}
				}
			}
		}
	}
	return ordered(all)
}

// shrunk returns the cells of a set whose surroundings of n steps are in it.
func shrunk(l []api.Cell, n int) []api.Cell {
	var out []api.Cell
	for _, c := range l {
		if len(without(grown([]api.Cell{c}, n), l...)) == 0 {
			out = append(out, c)
		}
	}
	return out
}

// shortest returns the lexicographically first way of n further cells, by trying all.
func shortest(l []api.Cell, way []api.Cell, to api.Cell, n int) []api.Cell {
	last := way[len(way)-1]
	if distance(last, to) > n {
		return nil
	}
	if last == to {
		return way
	}
	for _, c := range l {
		if neighbours(last, c) {
			if found := shortest(l, append(slices.Clone(way), c), to, n-1); found != nil {
				return found
			}
		}
	}
	return nil
}

func TestParts(t *testing.T) {
	sameList(t, "Parts", fine[[][]api.Cell](t)(grid.Parts([]api.Cell{at(0, 0, 0), at(1, 1, 0), at(1, 1, 1)})), [][]api.Cell{{at(0, 0, 0)}, {at(1, 1, 0), at(1, 1, 1)}})
	sameList(t, "Parts of a part", fine[[][]api.Cell](t)(grid.Parts(corner())), [][]api.Cell{corner()})
	sameList(t, "Parts of nothing", fine[[][]api.Cell](t)(grid.Parts(nil)), nil)
	border := []api.Cell{at(-1000, 0, 0), at(1000, 0, 0)}
	sameList(t, "Parts at the border", fine[[][]api.Cell](t)(grid.Parts(border)), [][]api.Cell{border[:1], border[1:]})
	same(t, "Parts of the most cells", len(fine[[][]api.Cell](t)(grid.Parts(block(t, at(0, 0, 0), at(15, 15, 15))))), 1)
	r := dice()
	for range 60 {
		l := scattered(r, 2, 2+r.IntN(3))
		sameList(t, "Parts", fine[[][]api.Cell](t)(grid.Parts(l)), partsOf(l, neighbours))
	}
}

func TestShell(t *testing.T) {
	seven := fine[[]api.Cell](t)(grid.Grow(origin(), 1))
	sameList(t, "Shell", fine[[]api.Cell](t)(grid.Shell(seven)), without(seven, at(0, 0, 0)))
	sameList(t, "Shell of nothing", fine[[]api.Cell](t)(grid.Shell(nil)), nil)
	for _, c := range []api.Cell{at(1, 0, 0), at(-1, 0, 0), at(0, 1, 0), at(0, -1, 0), at(0, 0, 1), at(0, 0, -1)} {
		six := without(seven, c)
		sameList(t, "Shell of six", fine[[]api.Cell](t)(grid.Shell(six)), six)
	}
	// Beyond the border of the grid there are cells that are in no set.
	edge := block(t, at(998, -1, -1), at(1000, 1, 1))
	sameList(t, "Shell at the border", fine[[]api.Cell](t)(grid.Shell(edge)), without(edge, at(999, 0, 0)))
	r := dice()
	for range 30 {
		l := scattered(r, 3, 5)
		l = ordered(slices.Concat(block(t, at(-2, -2, -2), at(2, 2, 1)), l))
		var want []api.Cell
		for _, c := range l {
			if len(without(grown([]api.Cell{c}, 1), l...)) > 0 {
				want = append(want, c)
			}
		}
		sameList(t, "Shell", fine[[]api.Cell](t)(grid.Shell(l)), want)
	}
}

func TestGrow(t *testing.T) {
	sameList(t, "Grow by 1", fine[[]api.Cell](t)(grid.Grow(origin(), 1)), []api.Cell{at(-1, 0, 0), at(0, -1, 0), at(0, 0, -1), at(0, 0, 0), at(0, 0, 1), at(0, 1, 0), at(1, 0, 0)})
	same(t, "Grow by 2", len(fine[[]api.Cell](t)(grid.Grow(origin(), 2))), 25)
	sameList(t, "Grow by 0", fine[[]api.Cell](t)(grid.Grow(corner(), 0)), corner())
	sameList(t, "Grow nothing", fine[[]api.Cell](t)(grid.Grow(nil, 64)), nil)
	r := dice()
	for range 20 {
		l := scattered(r, 4, 100)
		for n := range 4 {
			sameList(t, "Grow", fine[[]api.Cell](t)(grid.Grow(l, n)), grown(l, n))
		}
	}
	same(t, "Grow by 14", len(fine[[]api.Cell](t)(grid.Grow(origin(), 14))), 4089)
	same(t, "Grow to the most", len(fine[[]api.Cell](t)(grid.Grow(exactly(), 1))), 4096)
	full := block(t, at(-1000, 0, 0), at(-985, 15, 15))
	for _, row := range []struct {
		what string
		l    []api.Cell
		n    int
		e    api.Errno
	}{
		{"15 steps", origin(), 15, api.ErrMany}, {"64 steps", origin(), 64, api.ErrMany}, {"65 steps", origin(), 65, api.ErrRange}, {"-1 steps", nil, -1, api.ErrRange}, {"the least integer", nil, least, api.ErrRange}, {"the greatest integer", nil, greatest, api.ErrRange}, {"4097 cells", append(exactly(), at(500, 500, 500)), 1, api.ErrMany},
		{"beyond X", []api.Cell{at(1000, 0, 0)}, 1, api.ErrRange}, {"beyond -X", []api.Cell{at(-999, 0, 0)}, 2, api.ErrRange}, {"beyond Y", []api.Cell{at(0, 1000, 0)}, 1, api.ErrRange}, {"beyond -Y", []api.Cell{at(0, -1000, 0)}, 1, api.ErrRange}, {"beyond Z", []api.Cell{at(0, 0, 1000)}, 1, api.ErrRange}, {"beyond -Z", []api.Cell{at(0, 0, -1000)}, 1, api.ErrRange}, {"too many before too far", full, 1, api.ErrMany}, {"too many before too far", []api.Cell{at(1000, 0, 0)}, 64, api.ErrMany},
		{"no set", badSets()[api.ErrOrder], 65, api.ErrOrder}, {"no set", badSets()[api.ErrMany], 65, api.ErrMany},
	} {
		got, e := grid.Grow(row.l, row.n)
		refused(t, "Grow, "+row.what, got, e, row.e)
	}
}

// exactly returns a set that has 4096 cells when it is grown by a step: 580 single cells become 7 each, and 3 pairs of neighbours 12 each.
func exactly() []api.Cell {
	var l []api.Cell
	for i := range 583 {
		c := at(-900+3*(i%100), 4*(i/100), 0)
		l = append(l, c)
		if i < 3 {
			l = append(l, at(c.X, c.Y+1, c.Z))
		}
	}
	return ordered(l)
}

func TestShrink(t *testing.T) {
	seven := fine[[]api.Cell](t)(grid.Grow(origin(), 1))
	sameList(t, "Shrink by 1", fine[[]api.Cell](t)(grid.Shrink(seven, 1)), origin())
	sameList(t, "Shrink by 2", fine[[]api.Cell](t)(grid.Shrink(seven, 2)), nil)
	sameList(t, "Shrink by 0", fine[[]api.Cell](t)(grid.Shrink(seven, 0)), seven)
	sameList(t, "Shrink by 64", fine[[]api.Cell](t)(grid.Shrink(seven, 64)), nil)
	sameList(t, "Shrink nothing", fine[[]api.Cell](t)(grid.Shrink(nil, 64)), nil)
	sameList(t, "Shrink the most", fine[[]api.Cell](t)(grid.Shrink(block(t, at(0, 0, 0), at(15, 15, 15)), 7)), block(t, at(7, 7, 7), at(8, 8, 8)))
	sameList(t, "Shrink at the border", fine[[]api.Cell](t)(grid.Shrink(block(t, at(998, 998, -1000), at(1000, 1000, -998)), 1)), []api.Cell{at(999, 999, -999)})
	r := dice()
	for range 20 {
		l := without(block(t, at(-4, -4, -4), at(4, 4, 4)), scattered(r, 4, 150)...)
		for n := range 4 {
			sameList(t, "Shrink", fine[[]api.Cell](t)(grid.Shrink(l, n)), shrunk(l, n))
		}
	}
	for _, n := range []int{-1, 65, least, greatest} {
		got, e := grid.Shrink(nil, n)
		refused(t, "Shrink", got, e, api.ErrRange)
		got, e = grid.Shrink(badSets()[api.ErrOrder], n)
		refused(t, "Shrink", got, e, api.ErrOrder)
	}
}

func TestApart(t *testing.T) {
	same(t, "Apart", fine[int](t)(grid.Apart(origin(), []api.Cell{at(1, 2, 3)})), 6)
	same(t, "Apart", fine[int](t)(grid.Apart(origin(), []api.Cell{at(-1, -2, -3), at(9, 9, 9)})), 6)
	same(t, "Apart from itself", fine[int](t)(grid.Apart(corner(), corner())), 0)
	same(t, "Apart across the grid", fine[int](t)(grid.Apart([]api.Cell{at(-1000, -1000, -1000)}, []api.Cell{at(1000, 1000, 1000)})), 6000)
	r := dice()
	for range 200 {
		a, b := scattered(r, 6, 300), scattered(r, 6, 300)
		if len(a) == 0 || len(b) == 0 {
			continue
		}
		want := greatest
		for _, c := range a {
			for _, d := range b {
				want = min(want, distance(c, d))
			}
		}
		same(t, "Apart", fine[int](t)(grid.Apart(a, b)), want)
	}
	for _, row := range []struct {
		a, b []api.Cell
		e    api.Errno
	}{
		{nil, nil, api.ErrEmpty}, {origin(), nil, api.ErrEmpty}, {nil, origin(), api.ErrEmpty}, {nil, badSets()[api.ErrOrder], api.ErrOrder}, {badSets()[api.ErrRange], nil, api.ErrRange}, {badSets()[api.ErrMany], badSets()[api.ErrOrder], api.ErrMany},
	} {
		got, e := grid.Apart(row.a, row.b)
		refused(t, "Apart", got, e, row.e)
	}
}

func TestPath(t *testing.T) {
	square := []api.Cell{at(0, 0, 0), at(0, 1, 0), at(1, 0, 0), at(1, 1, 0)}
	for _, row := range []struct {
		what     string
		l        []api.Cell
		from, to api.Cell
		want     []api.Cell
	}{
		{"A", corner(), at(0, 0, 0), at(1, 1, 0), corner()}, {"A backwards", corner(), at(1, 1, 0), at(0, 0, 0), []api.Cell{at(1, 1, 0), at(1, 0, 0), at(0, 0, 0)}}, {"a square", square, at(0, 0, 0), at(1, 1, 0), []api.Cell{at(0, 0, 0), at(0, 1, 0), at(1, 1, 0)}}, {"a square backwards", square, at(1, 1, 0), at(0, 0, 0), []api.Cell{at(1, 1, 0), at(0, 1, 0), at(0, 0, 0)}}, {"to itself", corner(), at(1, 0, 0), at(1, 0, 0), []api.Cell{at(1, 0, 0)}},
	} {
		sameList(t, "Path, "+row.what, fine[[]api.Cell](t)(grid.Path(row.l, row.from, row.to)), row.want)
	}
	r := dice()
	found := 0
	for range 200 {
		l := scattered(r, 1, 2)
		if len(l) < 2 {
			continue
		}
		from, to := l[r.IntN(len(l))], l[r.IntN(len(l))]
		var want []api.Cell
		for n := 0; n < len(l) && want == nil; n++ {
			want = shortest(l, []api.Cell{from}, to, n)
		}
		got, e := grid.Path(l, from, to)
		if want == nil {
			refused(t, "Path", got, e, api.ErrNone)
			continue
		}
		found++
		same(t, "Path", e, api.OK)
		sameList(t, "Path", got, want)
	}
	if found < 50 {
		t.Errorf("only %d paths", found)
	}
}

func TestErrorsOfPath(t *testing.T) {
	apart := []api.Cell{at(0, 0, 0), at(1, 1, 0)}
	far, elsewhere := at(0, 0, 1001), at(5, 5, 5)
	for _, row := range []struct {
		what     string
		l        []api.Cell
		from, to api.Cell
		e        api.Errno
	}{
		{"by a corner", apart, apart[0], apart[1], api.ErrNone}, {"from elsewhere", apart, elsewhere, apart[0], api.ErrUnknown}, {"to elsewhere", apart, apart[0], elsewhere, api.ErrUnknown}, {"from afar", apart, far, apart[0], api.ErrRange}, {"to afar", apart, apart[0], far, api.ErrRange}, {"from elsewhere to afar", apart, elsewhere, far, api.ErrUnknown}, {"from afar to elsewhere", apart, far, elsewhere, api.ErrRange}, {"in nothing", nil, at(0, 0, 0), at(0, 0, 0), api.ErrUnknown}, {"the least integers", apart, at(least, least, least), far, api.ErrRange}, {"in no set", badSets()[api.ErrOrder], far, elsewhere, api.ErrOrder}, {"in too many", badSets()[api.ErrMany], far, elsewhere, api.ErrMany},
	} {
		got, e := grid.Path(row.l, row.from, row.to)
		refused(t, "Path "+row.what, got, e, row.e)
	}
	long := block(t, at(0, 0, -1000), at(0, 1, 1000))
	same(t, "a long path", len(fine[[]api.Cell](t)(grid.Path(long, at(0, 0, -1000), at(0, 1, 1000)))), 2002)
}
