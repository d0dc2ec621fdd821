package bite_test

import (
	"testing"

	"cusp/api"
	"cusp/bite"
)

func TestChapterClearance(t *testing.T) {
	b := chapter()
	same(t, "Close", fine[int](t)(bite.Close(b, 0)), 3)
	same(t, "Close of a contact", fine[int](t)(bite.Close(b, 3)), 0)
	same(t, "Clearance", fine[[]bite.Column](t)(bite.Clearance(b, 0)), []bite.Column{{X: 0, Y: 0, Gap: 4}, {X: 3, Y: 0, Gap: 3}})
	same(t, "Clearance of a contact", fine[[]bite.Column](t)(bite.Clearance(b, 3)), []bite.Column{{X: 0, Y: 0, Gap: 1}, {X: 3, Y: 0, Gap: 0}})
}

// gapsOf returns the clearances of a position by the definition: pair by pair, with nothing between.
func gapsOf(b bite.Bite, position int) []bite.Column {
	gaps := map[[2]int]int{}
	lower := placed(b, position)
	for _, l := range lower {
	pairs:
		for _, u := range b.Upper {
			if u.X != l.X || u.Y != l.Y || u.Z <= l.Z {
				continue
			}
			for z := l.Z + 1; z < u.Z; z++ {
				between := []api.Cell{at(l.X, l.Y, z)}
				if len(common(between, lower))+len(common(between, b.Upper)) > 0 {
					continue pairs
				}
			}
			key, gap := [2]int{l.X, l.Y}, u.Z-l.Z-1
			if n, has := gaps[key]; !has || gap < n {
				gaps[key] = gap
			}
		}
	}
	var columns []bite.Column
	for x := -20; x <= 20; x++ {
		for y := -20; y <= 20; y++ {
			if gap, has := gaps[[2]int{x, y}]; has {
				columns = append(columns, bite.Column{X: x, Y: y, Gap: gap})
			}
		}
	}
	return columns
}

// riseOf returns by how many cells the lower set goes up by the definition, step by step, or -1 if it never hits.
func riseOf(b bite.Bite, position int) int {
	lower := placed(b, position)
	for n := range 100 {
		for i := range lower {
			lower[i].Z++
		}
		if len(common(b.Upper, lower)) > 0 {
			return n
		}
	}
	return -1
}

// narrowBite returns a bite with few columns, so that there is much in each of them.
func narrowBite(r interface{ IntN(int) int }) bite.Bite {
	var b bite.Bite
	for n := range 4 * 12 {
		c := at(n/24, n/12%2, n%12)
		switch r.IntN(5) {
		case 0:
			b.Upper = append(b.Upper, c)
		case 1:
			b.Lower = append(b.Lower, c)
		}
	}
	if len(b.Upper) == 0 || len(b.Lower) == 0 {
		return narrowBite(r)
	}
	b.Path = []api.Cell{at(0, 0, 0), at(0, 0, -1), at(1, 0, -2), at(1, -1, -3)}
	return b
}

func TestClearanceByDefinition(t *testing.T) {
	r := dice()
	met := map[string]int{}
	for i := range 2000 {
		b := randomBite(r)
		if i%2 == 1 {
			b = narrowBite(r)
		}
		for n := range b.Path {
			columns, e := bite.Clearance(b, n)
			rise, e2 := bite.Close(b, n)
			if stateOf(b, n) == 2 {
				refused(t, "Clearance of a hit", columns, e, api.ErrHit)
				refused(t, "Close of a hit", rise, e2, api.ErrHit)
				continue
			}
			want := gapsOf(b, n)
			same(t, "Clearance of "+short(b), fine[[]bite.Column](t)(columns, e), want)
			if want := riseOf(b, n); want < 0 {
				met["none"]++
				refused(t, "Close without a hit", rise, e2, api.ErrNone)
			} else {
				met["some"]++
				same(t, "Close of "+short(b), fine[int](t)(rise, e2), want)
			}
		}
	}
	same(t, "enough of each kind", met["none"] > 200 && met["some"] > 200, true)
}

// TestColumns has columns with several cells of both sets.
func TestColumns(t *testing.T) {
	column := func(heights ...int) []api.Cell {
		var l []api.Cell
		for _, z := range heights {
			l = append(l, at(2, -3, z))
		}
		return l
	}
	for _, x := range []struct {
		upper, lower []int
		gap          int
	}{
		{[]int{5}, []int{0}, 4}, {[]int{5}, []int{0, 2}, 2}, {[]int{5}, []int{2, 9}, 2}, {[]int{5, 7}, []int{0, 6}, 0}, {[]int{5, 20}, []int{0, 12}, 4}, {[]int{5, 15}, []int{0, 12}, 2},
		{[]int{1}, []int{0}, 0}, {[]int{1000}, []int{-1000}, 1999}, {[]int{-5, 3}, []int{-9, -1}, 3}, {[]int{-5, 3}, []int{0}, 2},
	} {
		b := single(column(x.upper...), column(x.lower...))
		same(t, "Clearance of "+short(x), fine[[]bite.Column](t)(bite.Clearance(b, 0)), []bite.Column{{X: 2, Y: -3, Gap: x.gap}})
		same(t, "Close of "+short(x), fine[int](t)(bite.Close(b, 0)), x.gap)
	}
	for _, x := range []struct{ upper, lower []int }{{[]int{0}, []int{1}}, {[]int{-1000}, []int{1000}}, {[]int{0, 2}, []int{3, 5}}} {
		b := single(column(x.upper...), column(x.lower...))
		same(t, "Clearance of a lower set above", fine[[]bite.Column](t)(bite.Clearance(b, 0)), nil)
		n, e := bite.Close(b, 0)
		refused(t, "Close of a lower set above", n, e, api.ErrNone)
	}
}

// TestHitElsewhere has a hit in one column and a gap in another one.
func TestHitElsewhere(t *testing.T) {
	b := single([]api.Cell{at(0, 0, 5), at(9, 9, 0)}, []api.Cell{at(0, 0, 0), at(9, 9, 0)})
	columns, e := bite.Clearance(b, 0)
	refused(t, "Clearance of a hit elsewhere", columns, e, api.ErrHit)
	n, e := bite.Close(b, 0)
	refused(t, "Close of a hit elsewhere", n, e, api.ErrHit)
	// A column of one set alone has no clearance.
	b = single([]api.Cell{at(0, 0, 5), at(0, 1, 5)}, []api.Cell{at(0, 0, 0), at(1, 0, 4)})
	same(t, "Clearance", fine[[]bite.Column](t)(bite.Clearance(b, 0)), []bite.Column{{X: 0, Y: 0, Gap: 4}})
	// Columns ascend by X, then by Y, also where the path shifts them.
	b = bite.Bite{Upper: setOf(at(-1, 2, 9), at(-1, 3, 9), at(0, -4, 9), at(2, 0, 9)), Lower: setOf(at(1, 2, 0), at(1, 3, 1), at(2, -4, 2), at(4, 0, 3)), Path: []api.Cell{at(-2, 0, 0)}}
	same(t, "Clearance of several columns", fine[[]bite.Column](t)(bite.Clearance(b, 0)), []bite.Column{{X: -1, Y: 2, Gap: 8}, {X: -1, Y: 3, Gap: 7}, {X: 0, Y: -4, Gap: 6}, {X: 2, Y: 0, Gap: 5}})
	// Part of the lower set leaves the grid before the other part hits.
	b = single([]api.Cell{at(0, 0, 1000)}, []api.Cell{at(0, 0, -1000), at(5, 5, 1000)})
	same(t, "Close beyond the grid", fine[int](t)(bite.Close(b, 0)), 1999)
}

func TestClearanceErrors(t *testing.T) {
	for _, x := range faultyBites() {
		for _, n := range []int{0, -1} {
			columns, e := bite.Clearance(x.b, n)
			refused(t, "Clearance of "+x.what, columns, e, x.e)
			rise, e := bite.Close(x.b, n)
			refused(t, "Close of "+x.what, rise, e, x.e)
		}
	}
	for _, n := range faultyPositions() {
		columns, e := bite.Clearance(chapter(), n)
		refused(t, "Clearance of no position", columns, e, api.ErrUnknown)
		rise, e := bite.Close(chapter(), n)
		refused(t, "Close of no position", rise, e, api.ErrUnknown)
	}
}
