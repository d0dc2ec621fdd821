package grid_test

import (
	"slices"
	"strconv"
	"testing"

	"cusp/api"
	"cusp/grid"
)

// ascent returns a table with n breakpoints: the Y of each one is twice its X.
func ascent(n int) []api.Point {
	t := make([]api.Point, n)
	for i := range t {
		t[i] = api.Point{X: api.Rat(strconv.Itoa(i)), Y: api.Rat(strconv.Itoa(2 * i))}
	}
	return t
}

func TestCheckTable(t *testing.T) {
	long := api.Rat(digits(601))
	for _, row := range []struct {
		what string
		t    []api.Point
		e    api.Errno
	}{
		{"nothing", nil, api.ErrEmpty}, {"an empty list", []api.Point{}, api.ErrEmpty}, {"one", ascent(1), api.OK}, {"64", ascent(64), api.OK}, {"65", ascent(65), api.ErrMany}, {"65 that are none", make([]api.Point, 65), api.ErrMany},
		{"equal X", []api.Point{{X: "1", Y: "1"}, {X: "1", Y: "2"}}, api.ErrOrder}, {"X that descend", []api.Point{{X: "1/2", Y: "1"}, {X: "1/3", Y: "2"}}, api.ErrOrder}, {"Y that descend", []api.Point{{X: "-1", Y: "5"}, {X: "1/3", Y: "5"}, {X: "1/2", Y: "-5"}}, api.OK},
		{"X, then Y", []api.Point{{X: "x", Y: long}}, api.ErrForm}, {"Y", []api.Point{{X: "1", Y: long}}, api.ErrLarge}, {"X too long", []api.Point{{X: long, Y: "x"}}, api.ErrLarge},
		{"Y before the order", []api.Point{{X: "1", Y: "1"}, {X: "0", Y: "x"}}, api.ErrForm}, {"the first breakpoint", []api.Point{{X: "1", Y: "1"}, {X: "0", Y: "1"}, {X: "x", Y: "x"}}, api.ErrOrder},
	} {
		same(t, row.what, grid.CheckTable(row.t), row.e)
	}
}

func TestStep(t *testing.T) {
	table := []api.Point{{X: "0", Y: "10"}, {X: "5", Y: "20"}, {X: "11/2", Y: "-1/2"}}
	for _, row := range [][2]api.Rat{{"0", "10"}, {"1/1000", "10"}, {"9/2", "10"}, {"5", "20"}, {"16/3", "20"}, {"11/2", "-1/2"}, {"100", "-1/2"}} {
		same(t, "Step", fine[api.Rat](t)(grid.Step(table, row[0])), row[1])
	}
	for _, row := range []struct {
		t []api.Point
		x api.Rat
		e api.Errno
	}{{table, "-1/1000", api.ErrRange}, {table, "x", api.ErrForm}, {table, api.Rat("-" + digits(601)), api.ErrLarge}, {nil, "x", api.ErrEmpty}, {ascent(65), "-1", api.ErrMany}, {ascent(1), "-1", api.ErrRange}} {
		got, e := grid.Step(row.t, row.x)
		refused(t, "Step", got, e, row.e)
	}
	same(t, "Step", fine[api.Rat](t)(grid.Step(ascent(64), "125/2")), "124")
}

func TestShares(t *testing.T) {
	for _, row := range []struct {
		total         int
		weights, want []int
	}{
		{50, []int{1, 2, 4}, []int{7, 14, 29}}, {11, []int{1, 1, 1, 0}, []int{4, 4, 3, 0}}, {0, []int{0, 5}, []int{0, 0}}, {7, []int{3}, []int{7}}, {1, []int{0, 0, 1}, []int{0, 0, 1}}, {3, []int{1, 1, 1, 1, 1}, []int{1, 1, 1, 0, 0}}, {5, []int{0, 1, 2, 1}, []int{0, 1, 3, 1}}, {10, []int{1, 2, 3, 1}, []int{2, 3, 4, 1}},
		{999999999, []int{999999999, 999999999, 999999999}, []int{333333333, 333333333, 333333333}}, {999999998, []int{999999999, 0, 999999999}, []int{499999999, 0, 499999999}}, {999999999, []int{999999999, 1}, []int{999999998, 1}},
	} {
		sameList(t, "Shares", fine[[]int](t)(grid.Shares(row.total, row.weights)), row.want)
	}
	many := slices.Repeat([]int{999999999}, 256)
	got := fine[[]int](t)(grid.Shares(255, many))
	same(t, "Shares of 256", got[0], 1)
	same(t, "Shares of 256", got[254], 1)
	same(t, "Shares of 256", got[255], 0)
	same(t, "weights afterwards", many[0], 999999999)
}

func TestErrorsOfShares(t *testing.T) {
	for _, row := range []struct {
		total   int
		weights []int
		e       api.Errno
	}{
		{-1, nil, api.ErrRange}, {1000000000, nil, api.ErrRange}, {least, []int{1}, api.ErrRange}, {greatest, []int{1}, api.ErrRange}, {1, nil, api.ErrEmpty}, {1, make([]int, 257), api.ErrMany}, {1, slices.Repeat([]int{-1}, 257), api.ErrMany}, {1, []int{0, -1}, api.ErrRange}, {1, []int{0, 1000000000}, api.ErrRange}, {1, []int{least, greatest}, api.ErrRange}, {1, []int{-1, 1}, api.ErrRange}, {1, []int{0, 0}, api.ErrZero}, {0, make([]int, 256), api.ErrZero},
	} {
		got, e := grid.Shares(row.total, row.weights)
		refused(t, "Shares", got, e, row.e)
	}
}

func TestDraw(t *testing.T) {
	for _, row := range []struct {
		key, n int
		want   []int
	}{
		{2, 3, []int{0, 2, 1}}, {1, 3, []int{0, 1, 2}}, {5, 0, nil}, {5, 1, []int{0}}, {2147483562, 2, []int{1, 0}}, {2147483562, 3, []int{1, 2, 0}},
	} {
		sameList(t, "Draw", fine[[]int](t)(grid.Draw(row.key, row.n)), row.want)
	}
	for key := range 50 {
		var want []int
		left := ascending(256)
		x := uint64(key + 1)
		for len(left) > 0 {
			x = 40014 * x % 2147483563
			i := int(x % uint64(len(left)))
			want = append(want, left[i])
			left = append(left[:i], left[i+1:]...)
		}
		sameList(t, "Draw", fine[[]int](t)(grid.Draw(key+1, 256)), want)
	}
	for _, row := range [][2]int{{0, 3}, {-1, 3}, {2147483563, 3}, {1, -1}, {1, 257}, {least, least}, {greatest, greatest}} {
		got, e := grid.Draw(row[0], row[1])
		refused(t, "Draw", got, e, api.ErrRange)
	}
}

// ascending returns the numbers from 0 to n - 1.
func ascending(n int) []int {
	l := make([]int, n)
	for i := range l {
		l[i] = i
	}
	return l
}
