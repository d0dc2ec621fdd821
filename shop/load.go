package shop

import (
	"maps"
	"slices"

	"cusp/api"
)

// load is what is in a furnace together: the program of its items, and their sizes added up.
type load struct {
	program string
	size    int
}

// CheckItems returns the first error of items, or OK.
func CheckItems(l []Item, capacity int) api.Errno {
	if e := first(when(len(l) > MaxItems, api.ErrMany), within(capacity, 1, api.MaxNumber)); e != api.OK {
		return e
	}
	seen := names{}
	for _, x := range l {
		e := first(checkName(x.Name), checkName(x.Program), seen.add(x.Name), within(x.Size, 1, capacity))
		if e != api.OK {
			return e
		}
	}
	return api.OK
}

// packed returns the loads of the first items, by the numbers of their loads, or the first error of these.
func packed(l []Item, capacity int, numbers []int) ([]load, api.Errno) {
	var loads []load
	for i, n := range numbers {
		if n < 0 || n > len(loads) {
			return nil, api.ErrOrder
		}
		if n == len(loads) {
			loads = append(loads, load{program: l[i].Program})
		}
		if loads[n].program != l[i].Program {
			return nil, api.ErrKind
		}
		loads[n].size += l[i].Size
		if loads[n].size > capacity {
			return nil, api.ErrLarge
		}
	}
	return loads, api.OK
}

// CheckLoads returns the number of loads, or the error of a load list.
func CheckLoads(l []Item, capacity int, loads []int) (int, api.Errno) {
	if e := first(CheckItems(l, capacity), when(len(loads) != len(l), api.ErrShape)); e != api.OK {
		return 0, e
	}
	made, e := packed(l, capacity, loads)
	return len(made), e
}

// firstList returns the lexicographically first load list with at most so many loads, if there is one.
func firstList(l []Item, capacity, most int) ([]int, bool) {
	var list []int
	next := 0
extend:
	for len(list) < len(l) {
		for n := next; n < most; n++ {
			longer := append(slices.Clone(list), n)
			if _, e := packed(l, capacity, longer); e == api.OK {
				list, next = longer, 0
				continue extend
			}
		}
		if len(list) == 0 {
			return nil, false
		}
		last := len(list) - 1
		list, next = list[:last], list[last]+1
	}
	return list, true
}

// Loads returns the best load list.
func Loads(l []Item, capacity int) ([]int, api.Errno) {
	if e := first(CheckItems(l, capacity), when(len(l) > api.MaxExact, api.ErrLimit)); e != api.OK {
		return nil, e
	}
	// As many loads as items are always enough.
	most := 0
	list, isFound := firstList(l, capacity, most)
	for !isFound {
		most++
		list, isFound = firstList(l, capacity, most)
	}
	return list, api.OK
}

// Fewest returns the lower bound of the number of loads.
func Fewest(l []Item, capacity int) (int, api.Errno) {
	if e := CheckItems(l, capacity); e != api.OK {
		return 0, e
	}
	sizes := map[string]int{}
	for _, x := range l {
		sizes[x.Program] += x.Size
	}
	bound := 0
	for size := range maps.Values(sizes) {
		bound += (size + capacity - 1) / capacity
	}
	return bound, api.OK
}
