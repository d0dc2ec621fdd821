package bite_test

import (
	"slices"
	"testing"

	"cusp/api"
	"cusp/bite"
)

// standing returns a bite whose contacts are at some points: above each of them is an upper cell on a lower one.
// Points are two steps apart at least, so that there are no other contacts.
func standing(points ...[2]int) bite.Bite {
	var lower, upper []api.Cell
	for _, p := range points {
		lower = append(lower, at(p[0], p[1], 0))
		upper = append(upper, at(p[0], p[1], 1))
	}
	return single(setOf(upper...), setOf(lower...))
}

func TestChapterSupport(t *testing.T) {
	b := chapter()
	b.Lower[0].Z = 1
	same(t, "Contacts", fine[[]api.Cell](t)(bite.Contacts(b, 3)), b.Upper)
	same(t, "Sides", fine[[2]int](t)(bite.Sides(b, 3, 1)), [2]int{1, 1})
	same(t, "Support", fine[[][2]int](t)(bite.Support(b, 3)), [][2]int{{0, 0}, {3, 0}})
	same(t, "Holds", fine[int](t)(bite.Holds(b, 3, [2]int{1, 0})), 0)
	same(t, "Holds", fine[int](t)(bite.Holds(b, 3, [2]int{1, 1})), -1)
}

func TestSides(t *testing.T) {
	b := standing([2]int{-4, 0}, [2]int{-2, 2}, [2]int{0, -3}, [2]int{0, 5}, [2]int{2, 0}, [2]int{6, 6})
	for _, x := range []struct {
		middle int
		want   [2]int
	}{
		{-1000, [2]int{0, 6}}, {-5, [2]int{0, 6}}, {-4, [2]int{0, 5}}, {-3, [2]int{1, 5}}, {-2, [2]int{1, 4}}, {-1, [2]int{2, 4}}, {0, [2]int{2, 2}}, {1, [2]int{4, 2}}, {2, [2]int{4, 1}}, {6, [2]int{5, 0}}, {7, [2]int{6, 0}}, {1000, [2]int{6, 0}},
	} {
		same(t, "Sides", fine[[2]int](t)(bite.Sides(b, 0, x.middle)), x.want)
	}
	// Contacts count, not columns.
	b = single([]api.Cell{at(0, 0, 1), at(0, 0, -1), at(1, 0, 0)}, []api.Cell{at(0, 0, 0)})
	b.Upper = setOf(b.Upper...)
	same(t, "Sides of a column", fine[[2]int](t)(bite.Sides(b, 0, 1)), [2]int{2, 0})
	// Without contacts there are none on both sides.
	same(t, "Sides, apart", fine[[2]int](t)(bite.Sides(chapter(), 0, 0)), [2]int{})
	sides, e := bite.Sides(chapter(), 4, 0)
	refused(t, "Sides of a hit", sides, e, api.ErrHit)
	for _, n := range faultyNumbers() {
		for position := range 5 {
			sides, e := bite.Sides(chapter(), position, n)
			refused(t, "Sides of no plane", sides, e, api.ErrRange)
		}
	}
}

func TestSidesByDefinition(t *testing.T) {
	r := dice()
	for range 300 {
		b := randomBite(r)
		for i := range b.Path {
			for middle := -4; middle <= 4; middle++ {
				sides, e := bite.Sides(b, i, middle)
				if stateOf(b, i) == 2 {
					refused(t, "Sides of a hit", sides, e, api.ErrHit)
					continue
				}
				var want [2]int
				for _, c := range touching(b.Upper, placed(b, i)) {
					if c.X < middle {
						want[0]++
					} else if c.X > middle {
						want[1]++
					}
				}
				same(t, "Sides of "+short(b), fine[[2]int](t)(sides, e), want)
			}
		}
	}
}

func TestPolygons(t *testing.T) {
	for _, x := range []struct {
		what          string
		points, wants [][2]int
	}{
		{"a point", [][2]int{{7, -7}}, [][2]int{{7, -7}}},
		{"two points", [][2]int{{4, 0}, {0, 9}}, [][2]int{{0, 9}, {4, 0}}},
		{"two points along Y", [][2]int{{4, 9}, {4, -9}}, [][2]int{{4, -9}, {4, 9}}},
		{"a line", [][2]int{{0, 0}, {2, 4}, {4, 8}, {10, 20}}, [][2]int{{0, 0}, {10, 20}}},
		{"a line downwards", [][2]int{{0, 0}, {2, -4}, {4, -8}}, [][2]int{{0, 0}, {4, -8}}},
		{"a line along X", [][2]int{{0, 5}, {2, 5}, {4, 5}}, [][2]int{{0, 5}, {4, 5}}},
		{"a line along Y", [][2]int{{5, 0}, {5, 2}, {5, 4}}, [][2]int{{5, 0}, {5, 4}}},
		{"a triangle", [][2]int{{0, 0}, {2, 4}, {6, 0}}, [][2]int{{0, 0}, {6, 0}, {2, 4}}},
		{"a square", [][2]int{{0, 0}, {0, 2}, {2, 0}, {2, 2}}, [][2]int{{0, 0}, {2, 0}, {2, 2}, {0, 2}}},
		{"a square with points on its border and inside", [][2]int{{0, 0}, {0, 2}, {0, 4}, {2, 0}, {2, 2}, {2, 4}, {4, 0}, {4, 2}, {4, 4}}, [][2]int{{0, 0}, {4, 0}, {4, 4}, {0, 4}}},
		{"a square on its corner", [][2]int{{-2, 0}, {0, -2}, {0, 2}, {2, 0}}, [][2]int{{-2, 0}, {0, -2}, {2, 0}, {0, 2}}},
		{"a wide one", [][2]int{{-1000, -1000}, {-1000, 1000}, {1000, -1000}, {1000, 1000}, {0, 0}}, [][2]int{{-1000, -1000}, {1000, -1000}, {1000, 1000}, {-1000, 1000}}},
	} {
		b := standing(x.points...)
		same(t, "Support of "+x.what, fine[[][2]int](t)(bite.Support(b, 0)), x.wants)
		for _, p := range x.wants {
			same(t, "Holds of a corner of "+x.what, fine[int](t)(bite.Holds(b, 0, p)), 0)
		}
	}
	// Several contacts of one column are one point.
	b := single([]api.Cell{at(0, 0, -1), at(0, 0, 1)}, []api.Cell{at(0, 0, 0)})
	same(t, "Support of a column", fine[[][2]int](t)(bite.Support(b, 0)), [][2]int{{0, 0}})
}

func TestHolds(t *testing.T) {
	for _, x := range []struct {
		what   string
		points [][2]int
		at     [2]int
		want   int
	}{
		{"a point", [][2]int{{3, 4}}, [2]int{3, 4}, 0},
		{"a point", [][2]int{{3, 4}}, [2]int{3, 5}, -1},
		{"a point", [][2]int{{3, 4}}, [2]int{4, 4}, -1},
		{"a line", [][2]int{{0, 0}, {4, 8}}, [2]int{2, 4}, 0},
		{"a line", [][2]int{{0, 0}, {4, 8}}, [2]int{1, 2}, 0},
		{"a line", [][2]int{{0, 0}, {4, 8}}, [2]int{2, 5}, -1},
		{"a line", [][2]int{{0, 0}, {4, 8}}, [2]int{2, 3}, -1},
		{"a line", [][2]int{{0, 0}, {4, 8}}, [2]int{5, 10}, -1},
		{"a line", [][2]int{{0, 0}, {4, 8}}, [2]int{-1, -2}, -1},
		{"a line along X", [][2]int{{0, 0}, {4, 0}}, [2]int{5, 0}, -1},
		{"a line along X", [][2]int{{0, 0}, {4, 0}}, [2]int{-1, 0}, -1},
		{"a line along Y", [][2]int{{0, 0}, {0, 4}}, [2]int{0, 3}, 0},
		{"a line along Y", [][2]int{{0, 0}, {0, 4}}, [2]int{0, 5}, -1},
		{"a triangle", [][2]int{{0, 0}, {2, 4}, {6, 0}}, [2]int{2, 1}, 1},
		{"a triangle", [][2]int{{0, 0}, {2, 4}, {6, 0}}, [2]int{1, 2}, 0},
		{"a triangle", [][2]int{{0, 0}, {2, 4}, {6, 0}}, [2]int{1, 3}, -1},
		{"a triangle", [][2]int{{0, 0}, {2, 4}, {6, 0}}, [2]int{3, 0}, 0},
		{"a triangle, on the line of an edge", [][2]int{{0, 0}, {2, 4}, {6, 0}}, [2]int{8, 0}, -1},
		{"a triangle, on the line of an edge", [][2]int{{0, 0}, {2, 4}, {6, 0}}, [2]int{3, 6}, -1},
		{"a triangle, far away", [][2]int{{0, 0}, {2, 4}, {6, 0}}, [2]int{1000, -1000}, -1},
	} {
		same(t, "Holds of "+x.what+short(x.at), fine[int](t)(bite.Holds(standing(x.points...), 0, x.at)), x.want)
	}
}

// turn tells on which side of the line from a to b a point is: above 0 on the left.
func turn(a, b, p [2]int) int { return (b[0]-a[0])*(p[1]-a[1]) - (b[1]-a[1])*(p[0]-a[0]) }

// isOn reports whether a point is on the line from a to b, and not beyond its ends.
func isOn(a, b, p [2]int) bool {
	return turn(a, b, p) == 0 && (p[0]-a[0])*(p[0]-b[0]) <= 0 && (p[1]-a[1])*(p[1]-b[1]) <= 0
}

// holding returns where a point is by the definition: on a line of two points with all others on one side, in a triangle of them, or outside.
func holding(points [][2]int, p [2]int) int {
	for _, a := range points {
		for _, b := range points {
			isBefore := func(q [2]int) bool { return turn(a, b, q) < 0 }
			if (a != b || len(points) == 1) && isOn(a, b, p) && !slices.ContainsFunc(points, isBefore) {
				return 0
			}
		}
	}
	for _, a := range points {
		for _, b := range points {
			for _, c := range points {
				if turn(a, b, c) > 0 && turn(a, b, p) >= 0 && turn(b, c, p) >= 0 && turn(c, a, p) >= 0 {
					return 1
				}
			}
		}
	}
	return -1
}

// isSupport reports a polygon that is not the support of some points.
func isSupport(t *testing.T, corners, points [][2]int) {
	t.Helper()
	for i, a := range corners {
		if !slices.Contains(points, a) {
			t.Errorf("the corner %v is none of %v", a, points)
		}
		b, c := corners[(i+1)%len(corners)], corners[(i+2)%len(corners)]
		if len(corners) > 2 && turn(a, b, c) <= 0 {
			t.Errorf("no turn to the left at %v of %v", b, corners)
		}
		for _, p := range points {
			if turn(a, b, p) < 0 || len(corners) < 3 && !isOn(a, b, p) {
				t.Errorf("the point %v of %v is not in %v", p, points, corners)
			}
			if p[0] < corners[0][0] || p[0] == corners[0][0] && p[1] < corners[0][1] {
				t.Errorf("the point %v is less than the first corner of %v", p, corners)
			}
		}
	}
}

func TestSupportByDefinition(t *testing.T) {
	r := dice()
	met := map[int]int{}
	for range 600 {
		var points [][2]int
		width := between(r, 0, 4)
		for range between(r, 1, 9) {
			points = append(points, [2]int{2 * between(r, -1, width), 2 * between(r, -1, 2)})
		}
		b := standing(points...)
		slices.SortFunc(points, func(a, b [2]int) int { return slices.Compare(a[:], b[:]) })
		points = slices.Compact(points)
		corners := fine[[][2]int](t)(bite.Support(b, 0))
		isSupport(t, corners, points)
		for n := range 16 * 12 {
			p := [2]int{n/12 - 4, n%12 - 4}
			want := holding(points, p)
			met[want]++
			same(t, "Holds of "+short(p)+" in "+short(points), fine[int](t)(bite.Holds(b, 0, p)), want)
		}
	}
	same(t, "enough of each kind", met[-1] > 1000 && met[0] > 1000 && met[1] > 1000, true)
}

// TestLargeSupport has many contacts in a round field, with many corners.
func TestLargeSupport(t *testing.T) {
	var points [][2]int
	for n := range 64 * 64 {
		x, y := n/64-32, n%64-32
		if x*x+y*y <= 31*31 {
			points = append(points, [2]int{x, y})
		}
	}
	var b bite.Bite
	for _, p := range points {
		b.Upper = append(b.Upper, at(p[0], p[1], 3))
		b.Lower = append(b.Lower, at(p[0]-500, p[1]+500, -600))
	}
	b.Path = []api.Cell{at(500, -500, 602)}
	corners := fine[[][2]int](t)(bite.Support(b, 0))
	isSupport(t, corners, points)
	same(t, "enough corners", len(corners) > 16, true)
}

func TestSupportErrors(t *testing.T) {
	for _, x := range faultyBites() {
		for _, n := range []int{0, -1} {
			sides, e := bite.Sides(x.b, n, 9999)
			refused(t, "Sides of "+x.what, sides, e, x.e)
			corners, e := bite.Support(x.b, n)
			refused(t, "Support of "+x.what, corners, e, x.e)
			held, e := bite.Holds(x.b, n, [2]int{9999, 0})
			refused(t, "Holds of "+x.what, held, e, x.e)
		}
	}
	for _, n := range faultyPositions() {
		sides, e := bite.Sides(chapter(), n, 9999)
		refused(t, "Sides of no position", sides, e, api.ErrUnknown)
		corners, e := bite.Support(chapter(), n)
		refused(t, "Support of no position", corners, e, api.ErrUnknown)
		held, e := bite.Holds(chapter(), n, [2]int{0, 9999})
		refused(t, "Holds of no position", held, e, api.ErrUnknown)
	}
	for position, want := range []api.Errno{0: api.ErrNone, 4: api.ErrHit} {
		if want == api.OK {
			continue
		}
		corners, e := bite.Support(chapter(), position)
		refused(t, "Support without contacts", corners, e, want)
		held, e := bite.Holds(chapter(), position, [2]int{1000, -1000})
		refused(t, "Holds without contacts", held, e, want)
	}
	for _, n := range faultyNumbers() {
		for position := range 5 {
			held, e := bite.Holds(chapter(), position, [2]int{n, 0})
			refused(t, "Holds of no point", held, e, api.ErrRange)
			held, e = bite.Holds(chapter(), position, [2]int{0, n})
			refused(t, "Holds of no point", held, e, api.ErrRange)
		}
	}
}
