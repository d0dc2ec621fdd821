package shop_test

import (
	"slices"
	"testing"

	"cusp/api"
	"cusp/shop"
)

// P9.2: CheckItems, CheckLoads, Loads and Fewest.

func TestLoadsOfTheExamples(t *testing.T) {
	l := items(item("p", 3), item("q", 4), item("p", 2))
	same(t, "Loads", fine[[]int](t)(shop.Loads(l, 5)), []int{0, 1, 0})
	same(t, "Fewest", fine[int](t)(shop.Fewest(l, 5)), 2)
	same(t, "Loads of a smaller furnace", fine[[]int](t)(shop.Loads(l, 4)), []int{0, 1, 2})
	same(t, "Fewest of a smaller furnace", fine[int](t)(shop.Fewest(l, 4)), 3)
	same(t, "Fewest of many programs", fine[int](t)(shop.Fewest(items(item("p", 1), item("q", 1), item("P", 1)), 9)), 3)
	same(t, "no loads", fine[[]int](t)(shop.Loads(nil, 1)), nil)
	same(t, "no loads", fine[int](t)(shop.Fewest(nil, 1)), 0)
	same(t, "no loads", fine[int](t)(shop.CheckLoads(nil, 1, nil)), 0)
	// What fits first does not always lead to the fewest loads.
	l = items(item("p", 1), item("p", 3), item("p", 3), item("p", 5), item("p", 4), item("p", 2), item("p", 2), item("p", 4))
	same(t, "four full loads", fine[[]int](t)(shop.Loads(l, 6)), []int{0, 1, 1, 0, 2, 2, 3, 3})
	same(t, "four full loads", fine[int](t)(shop.Fewest(l, 6)), 4)
	l = items(many(7, item("p", 3))...)
	same(t, "more than the lower bound", fine[[]int](t)(shop.Loads(l, 5)), []int{0, 1, 2, 3, 4, 5, 6})
	same(t, "the lower bound", fine[int](t)(shop.Fewest(l, 5)), 5)
}

// faultOf returns the number of loads of a load list, or its first error, by the definition.
func faultOf(l []shop.Item, capacity int, loads []int) (int, api.Errno) {
	for i, n := range loads {
		before := loads[:i]
		if n < 0 || n > count(before) {
			return 0, api.ErrOrder
		}
		total := l[i].Size
		for k, m := range before {
			if m == n && l[k].Program != l[i].Program {
				return 0, api.ErrKind
			}
			if m == n {
				total += l[k].Size
			}
		}
		if total > capacity {
			return 0, api.ErrLarge
		}
	}
	return count(loads), api.OK
}

func TestCheckLoads(t *testing.T) {
	r := dice()
	seen := map[api.Errno]int{}
	for range 5000 {
		l, capacity := randomItems(r, 0, 9, 2)
		var loads []int
		for range l {
			loads = append(loads, r.IntN(count(loads)+1))
		}
		if r.IntN(4) == 0 && len(loads) > 0 {
			loads[r.IntN(len(loads))] = between(r, -1, len(loads))
		}
		n, wanted := faultOf(l, capacity, loads)
		got, e := shop.CheckLoads(l, capacity, loads)
		same(t, "the error of a load list", e, wanted)
		same(t, "the number of loads", got, n)
		seen[e]++
	}
	for _, e := range []api.Errno{api.OK, api.ErrOrder, api.ErrKind, api.ErrLarge} {
		if seen[e] < 200 {
			t.Errorf("errors of load lists: %v", seen)
		}
	}
}

// TestLoadsByAllLists: the best load list is the first one of all lists with the fewest loads.
func TestLoadsByAllLists(t *testing.T) {
	r := dice()
	larger := 0
	for i := range 600 {
		l, capacity := randomItems(r, 0, 6, between(r, 1, 3))
		if i%60 == 0 {
			l, capacity = randomItems(r, 8, 8, 2)
		}
		good := slices.DeleteFunc(lists(len(l)), func(loads []int) bool {
			_, e := faultOf(l, capacity, loads)
			return e != api.OK
		})
		best := slices.MinFunc(good, func(a, b []int) int { return count(a) - count(b) })
		same(t, "Loads", fine[[]int](t)(shop.Loads(l, capacity)), best)
		if count(best) > fine[int](t)(shop.Fewest(l, capacity)) {
			larger++
		}
	}
	if larger < 20 {
		t.Errorf("only %d times more loads than the lower bound", larger)
	}
}

func TestFewest(t *testing.T) {
	r := dice()
	for range 1000 {
		l, capacity := randomItems(r, 0, 64, between(r, 1, 5))
		wanted := 0
		for i := range 5 {
			total := 0
			for _, x := range l {
				if x.Program == name(i) {
					total += x.Size
				}
			}
			for ; total > 0; total -= capacity {
				wanted++
			}
		}
		same(t, "Fewest", fine[int](t)(shop.Fewest(l, capacity)), wanted)
	}
	large := items(many(64, item("p", api.MaxNumber))...)
	same(t, "Fewest of the largest items", fine[int](t)(shop.Fewest(large, api.MaxNumber)), 64)
	large = items(append(many(63, item("p", 1)), item("p", api.MaxNumber))...)
	same(t, "Fewest of a large item and small ones", fine[int](t)(shop.Fewest(large, api.MaxNumber)), 2)
}

// TestManyLoads: a load list is checked for up to 64 items.
func TestManyLoads(t *testing.T) {
	l := items(many(64, item("p", api.MaxNumber))...)
	var all []int
	for i := range 64 {
		all = append(all, i)
	}
	same(t, "a load for each item", fine[int](t)(shop.CheckLoads(l, api.MaxNumber, all)), 64)
	all[63] = 62
	got, e := shop.CheckLoads(l, api.MaxNumber, all)
	refused(t, "two in one load", got, e, api.ErrLarge)
	small := items(many(64, item("p", 1))...)
	same(t, "one load", fine[int](t)(shop.CheckLoads(small, 64, make([]int, 64))), 1)
	got, e = shop.CheckLoads(small, 63, make([]int, 64))
	refused(t, "one too many", got, e, api.ErrLarge)
}

func TestErrorsOfItems(t *testing.T) {
	type bad struct {
		l        []shop.Item
		capacity int
		e        api.Errno
	}
	good := items(item("p", 1), item("q", 2))
	l := []bad{
		{make([]shop.Item, 65), 0, api.ErrMany},
		{append(slices.Clone(good), shop.Item{Name: name(0), Program: "p", Size: 0}), 9, api.ErrTwice},
		{append(slices.Clone(good), shop.Item{Name: name(0), Program: "", Size: 0}), 9, api.ErrName},
		{items(item("p", 0), item("", 1)), 9, api.ErrRange},
		{items(item("", 0), item("p", 0)), 9, api.ErrName},
		{good, 1, api.ErrRange},
	}
	for _, capacity := range []int{0, -1, api.MaxNumber + 1, least, greatest} {
		l = append(l, bad{nil, capacity, api.ErrRange}, bad{[]shop.Item{{}}, capacity, api.ErrRange})
	}
	for _, size := range []int{0, -1, 8, least, greatest} {
		l = append(l, bad{items(item("p", 7), item("p", size)), 7, api.ErrRange})
	}
	for _, s := range badNames() {
		l = append(l, bad{[]shop.Item{{Name: s, Program: "p", Size: 1}}, 9, api.ErrName})
		l = append(l, bad{[]shop.Item{{Name: "a", Program: s, Size: 1}}, 9, api.ErrName})
	}
	for _, x := range l {
		same(t, "CheckItems", shop.CheckItems(x.l, x.capacity), x.e)
		n, e := shop.CheckLoads(x.l, x.capacity, many(70, -1))
		refused(t, "CheckLoads", n, e, x.e)
		loads, e := shop.Loads(x.l, x.capacity)
		refused(t, "Loads", loads, e, x.e)
		n, e = shop.Fewest(x.l, x.capacity)
		refused(t, "Fewest", n, e, x.e)
	}
	most := items(many(64, item(longName, 1))...)
	most[63].Name = longName
	same(t, "64 items", shop.CheckItems(most, 1), api.OK)
	same(t, "no items", shop.CheckItems(nil, api.MaxNumber), api.OK)
}

func TestErrorsOfLoads(t *testing.T) {
	l := items(item("p", 1), item("q", 2), item("p", 2))
	for _, x := range []struct {
		loads []int
		e     api.Errno
	}{
		{nil, api.ErrShape},
		{[]int{-1, 1}, api.ErrShape},
		{[]int{0, 1, 0, -1}, api.ErrShape},
		{[]int{1, 0, 0}, api.ErrOrder},
		{[]int{-1, 0, 0}, api.ErrOrder},
		{[]int{0, 2, 0}, api.ErrOrder},
		{[]int{0, greatest, 0}, api.ErrOrder},
		{[]int{0, least, 0}, api.ErrOrder},
		{[]int{0, 0, -1}, api.ErrKind},
		{[]int{0, 1, 1}, api.ErrKind}, // also if the load is full
		{[]int{0, 1, 0}, api.ErrLarge},
	} {
		n, e := shop.CheckLoads(l, 2, x.loads)
		refused(t, "CheckLoads", n, e, x.e)
	}
	same(t, "CheckLoads", fine[int](t)(shop.CheckLoads(l, 2, []int{0, 1, 2})), 3)
	loads, e := shop.Loads(items(many(9, item("p", 1))...), 9)
	refused(t, "Loads of nine", loads, e, api.ErrLimit)
	same(t, "Loads of eight", fine[[]int](t)(shop.Loads(items(many(8, item("p", 1))...), 7)), []int{0, 0, 0, 0, 0, 0, 0, 1})
	same(t, "the greatest capacity", fine[[]int](t)(shop.Loads(items(many(8, item("p", api.MaxNumber))...), api.MaxNumber)), []int{0, 1, 2, 3, 4, 5, 6, 7})
}

// TestMemoryOfLoads: arguments stay as they are, and results are new.
func TestMemoryOfLoads(t *testing.T) {
	l, loads := items(item("p", 1), item("q", 2), item("p", 2)), []int{0, 1, 0}
	shop.CheckItems(l, 3)
	shop.CheckLoads(l, 3, loads)
	shop.Fewest(l, 3)
	fine[[]int](t)(shop.Loads(l, 3))[0] = 7
	same(t, "Loads again", fine[[]int](t)(shop.Loads(l, 3)), []int{0, 1, 0})
	same(t, "the items", l, items(item("p", 1), item("q", 2), item("p", 2)))
	same(t, "the load list", loads, []int{0, 1, 0})
}
