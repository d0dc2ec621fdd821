package insert_test

import (
	"math/rand/v2"
	"slices"
	"testing"

	"cusp/api"
	"cusp/insert"
)

// hooks returns two parts that hold each other, and one that is free.
func hooks() [][]api.Cell {
	return [][]api.Cell{{at(0, 0, 0), at(1, 0, 1)}, {at(0, 0, 1), at(1, 0, 0)}, {at(5, 5, 5)}}
}

// stack returns n parts, each one upon the one before.
func stack(n int) [][]api.Cell {
	var l [][]api.Cell
	for z := range n {
		l = append(l, []api.Cell{at(0, 0, 2*z)})
	}
	return l
}

func TestErrorsOfAssemblies(t *testing.T) {
	up, none := at(0, 0, 1), api.Cell{}
	check := func(what string, parts [][]api.Cell, base []api.Cell, d api.Cell, wanted api.Errno) {
		t.Helper()
		l, e := insert.Order(parts, base, d)
		refused(t, "Order: "+what, l, e, wanted)
		l, e = insert.Locked(parts, base, d)
		refused(t, "Locked: "+what, l, e, wanted)
		// The order has another length than the parts.
		n, e := insert.CheckOrder(parts, base, d, many(70, -1))
		refused(t, "CheckOrder: "+what, n, e, wanted)
	}
	for _, p := range faultyParts() {
		check(p.what, p.arg, []api.Cell{at(0, 0, 2), at(0, 0, 2)}, none, p.e)
	}
	for _, s := range faultySets() {
		check(s.what, hooks(), s.arg, none, s.e)
	}
	for _, d := range faultyDirections() {
		check("no direction", hooks(), nil, d, api.ErrRange)
	}
	check("the parts come before the base", [][]api.Cell{{at(0, 0, 2), at(0, 0, 2)}}, row(4097), up, api.ErrOrder)
}

func TestOrderOfTheChapter(t *testing.T) {
	up := at(0, 0, 1)
	for _, c := range []struct {
		what  string
		parts [][]api.Cell
		base  []api.Cell
		d     api.Cell
		order []int
	}{
		{"two parts", [][]api.Cell{{at(0, 0, 4)}, {at(0, 0, 5)}}, nil, up, []int{1, 0}},
		{"no parts", nil, []api.Cell{at(0, 0, 0)}, up, nil},
		{"parts of no cells", [][]api.Cell{nil, {}}, []api.Cell{at(0, 0, 0)}, up, []int{0, 1}},
		{"eight parts", stack(8), []api.Cell{at(0, 0, -1)}, up, []int{7, 6, 5, 4, 3, 2, 1, 0}},
		{"to the side", stack(8), []api.Cell{at(0, 0, -1)}, at(1, 0, 1), []int{0, 1, 2, 3, 4, 5, 6, 7}},
		{"first again what became free", [][]api.Cell{{at(0, 0, 0)}, {at(5, 0, 0)}, {at(0, 0, 9)}, {at(6, 0, 0)}}, nil, up, []int{1, 2, 0, 3}},
		{"between a base and a part", [][]api.Cell{{at(0, 0, 1)}, {at(0, 0, 2)}}, []api.Cell{at(0, 0, 0)}, up, []int{1, 0}},
		{"hooks along a tilt", hooks(), nil, at(0, 1, 1), []int{0, 1, 2}},
	} {
		same(t, "Order: "+c.what, fine[[]int](t)(insert.Order(c.parts, c.base, c.d)), c.order)
		same(t, "Locked: "+c.what, fine[[]int](t)(insert.Locked(c.parts, c.base, c.d)), nil)
		same(t, "CheckOrder: "+c.what, fine[int](t)(insert.CheckOrder(c.parts, c.base, c.d, c.order)), 0)
	}
	for _, c := range []struct {
		what   string
		parts  [][]api.Cell
		base   []api.Cell
		locked []int
	}{
		{"hooks", hooks(), nil, []int{0, 1}},
		{"a part below a base", stack(2), []api.Cell{at(0, 0, 3)}, []int{0, 1}},
		{"a part between two of a base", stack(3), []api.Cell{at(0, 0, 1)}, []int{0}},
		{"a part within a base", [][]api.Cell{{at(1, 1, 1)}, {at(0, 0, 0)}, {at(2, 2, 2)}}, []api.Cell{at(0, 0, 0)}, []int{1}},
		{"a part twice", [][]api.Cell{{at(0, 0, 0)}, {at(1, 0, 0)}, {at(0, 0, 0)}}, nil, []int{0, 2}},
		{"a part below hooks", append(hooks(), []api.Cell{at(1, 0, -3)}), nil, []int{0, 1, 3}},
	} {
		l, e := insert.Order(c.parts, c.base, up)
		refused(t, "Order: "+c.what, l, e, api.ErrInfeasible)
		same(t, "Locked: "+c.what, fine[[]int](t)(insert.Locked(c.parts, c.base, up)), c.locked)
	}
}

func TestErrorsOfOrders(t *testing.T) {
	up := at(0, 0, 1)
	for _, c := range []struct {
		what  string
		parts [][]api.Cell
		base  []api.Cell
		order []int
		n     int
		e     api.Errno
	}{
		{"an order", stack(3), nil, []int{2, 1, 0}, 0, api.OK},
		{"no parts", nil, nil, nil, 0, api.OK},
		{"too few", stack(3), nil, []int{2, 1}, 0, api.ErrShape},
		{"too many", stack(3), nil, []int{2, 1, 0, 0}, 0, api.ErrShape},
		{"no part, but a number", nil, nil, []int{0}, 0, api.ErrShape},
		{"no numbers", stack(1), nil, nil, 0, api.ErrShape},
		{"a number below 0", stack(3), nil, []int{2, -1, 0}, 0, api.ErrUnknown},
		{"a number above all", stack(3), nil, []int{2, 3, 3}, 0, api.ErrUnknown},
		{"the least number", stack(3), nil, []int{least, 2, 2}, 0, api.ErrUnknown},
		{"the greatest number", stack(3), nil, []int{2, 1, greatest}, 0, api.ErrUnknown},
		{"a part twice", stack(3), nil, []int{2, 2, 0}, 0, api.ErrTwice},
		{"a part twice, at the end", stack(3), nil, []int{2, 1, 2}, 0, api.ErrTwice},
		{"the first part below others", stack(3), nil, []int{0, 1, 2}, 0, api.ErrUndercut},
		{"the second part below another one", stack(3), nil, []int{2, 0, 1}, 1, api.ErrUndercut},
		{"the last part below the base", [][]api.Cell{{at(0, 0, 0)}, {at(1, 0, 0)}, {at(2, 0, 0)}}, []api.Cell{at(0, 0, 1)}, []int{2, 1, 0}, 2, api.ErrUndercut},
		{"the second part in the base", [][]api.Cell{{at(0, 0, 0)}, {at(1, 0, 0)}}, []api.Cell{at(1, 0, 0)}, []int{0, 1}, 1, api.ErrUndercut},
		{"a held part before a number that is none", stack(3), nil, []int{2, 0, 9}, 1, api.ErrUndercut},
		{"a held part before the same one", stack(3), nil, []int{0, 0, 0}, 0, api.ErrUndercut},
		{"a number that is none before a held part", stack(3), nil, []int{9, 0, 1}, 0, api.ErrUnknown},
		{"a part twice, held by the base", [][]api.Cell{{at(5, 0, 0)}, {at(0, 0, 0)}}, []api.Cell{at(0, 0, 0)}, []int{0, 0}, 0, api.ErrTwice},
		{"hooks", hooks(), nil, []int{2, 0, 1}, 1, api.ErrUndercut},
	} {
		n, e := insert.CheckOrder(c.parts, c.base, up, c.order)
		same(t, c.what, e, c.e)
		same(t, c.what, n, c.n)
	}
}

// assembly is parts on a base, and a direction.
type assembly struct {
	parts [][]api.Cell
	base  []api.Cell
	d     api.Cell
}

// randomAssembly returns small parts, some of which hold each other, or lie in one another.
func randomAssembly(r *rand.Rand) assembly {
	a := assembly{d: randomDirection(r)}
	used := map[api.Cell]bool{}
	for range between(r, 0, 6) {
		var part []api.Cell
		for _, c := range randomSet(r, 5, at(-2, -1, -1), at(1, 1, 3)) {
			if !used[c] || r.IntN(20) == 0 {
				part = append(part, c)
			}
			used[c] = true
		}
		a.parts = append(a.parts, part)
	}
	for _, c := range randomSet(r, 4, at(-2, -1, -4), at(1, 1, 2)) {
		if !used[c] {
			a.base = append(a.base, c)
		}
	}
	return a
}

// isHeld reports whether a part hits the base, or another part of some.
func (a assembly) isHeld(n int, there []int) bool {
	if hits(a.parts[n], a.base, a.d) {
		return true
	}
	return slices.ContainsFunc(there, func(other int) bool { return other != n && hits(a.parts[n], a.parts[other], a.d) })
}

// takenOut returns the parts in the order in which they are taken out, and the locked ones, by the definition.
func (a assembly) takenOut() (order, locked []int) {
	isThere := many(len(a.parts), true)
	for {
		var there []int
		for n, is := range isThere {
			if is {
				there = append(there, n)
			}
		}
		next := slices.IndexFunc(there, func(n int) bool { return !a.isHeld(n, there) })
		if next < 0 {
			return order, there
		}
		order = append(order, there[next])
		isThere[there[next]] = false
	}
}

// check returns what CheckOrder has to return.
func (a assembly) check(order []int) (int, api.Errno) {
	if len(order) != len(a.parts) {
		return 0, api.ErrShape
	}
	for i, n := range order {
		if n < 0 || n >= len(a.parts) {
			return 0, api.ErrUnknown
		}
		if slices.Contains(order[:i], n) {
			return 0, api.ErrTwice
		}
		var there []int
		for other := range a.parts {
			if !slices.Contains(order[:i], other) {
				there = append(there, other)
			}
		}
		if a.isHeld(n, there) {
			return i, api.ErrUndercut
		}
	}
	return 0, api.OK
}

func TestOrders(t *testing.T) {
	r := dice()
	whole := 0
	for range 1500 {
		a := randomAssembly(r)
		order, locked := a.takenOut()
		same(t, "Locked", fine[[]int](t)(insert.Locked(a.parts, a.base, a.d)), locked)
		got, e := insert.Order(a.parts, a.base, a.d)
		if len(locked) > 0 {
			refused(t, "Order of locked parts", got, e, api.ErrInfeasible)
		} else {
			whole++
			same(t, "Order", fine[[]int](t)(got, e), order)
		}
		for range 4 {
			tried := r.Perm(len(a.parts))
			if len(locked) == 0 && r.IntN(2) == 0 {
				tried = slices.Clone(order)
			}
			if len(tried) > 0 && r.IntN(3) == 0 {
				tried[r.IntN(len(tried))] = between(r, -1, len(tried))
			}
			wanted, wantedError := a.check(tried)
			n, e := insert.CheckOrder(a.parts, a.base, a.d, tried)
			same(t, "CheckOrder", e, wantedError)
			same(t, "CheckOrder", n, wanted)
		}
		if t.Failed() {
			t.Fatalf("with %+v", a)
		}
	}
	if whole < 300 || whole > 1350 {
		t.Errorf("%d of 1500 can be taken out", whole)
	}
}

func TestOrdersKeepTheirArguments(t *testing.T) {
	parts, base, up := stack(3), []api.Cell{at(0, 0, -1)}, at(0, 0, 1)
	order := fine[[]int](t)(insert.Order(parts, base, up))
	copied := slices.Clone(order)
	insert.CheckOrder(parts, base, up, order)
	same(t, "the order", order, copied)
	order[0] = 9
	same(t, "another result", fine[[]int](t)(insert.Order(parts, base, up)), copied)
	same(t, "the parts", slices.Concat(parts...), slices.Concat(stack(3)...))
	l := fine[[]int](t)(insert.Locked(hooks(), base, up))
	l[0] = 9
	same(t, "another result", fine[[]int](t)(insert.Locked(hooks(), base, up)), []int{0, 1})
}

// TestLargestAssembly has eight parts and a base of the greatest size.
func TestLargestAssembly(t *testing.T) {
	var parts [][]api.Cell
	for n := range insert.MaxGroups {
		var part []api.Cell
		for i := range 4096 {
			part = append(part, at(i/64, i%64, 20*n))
		}
		parts = append(parts, part)
	}
	var base []api.Cell
	for i := range 4096 {
		base = append(base, at(i/64, i%64, -999))
	}
	same(t, "Order", fine[[]int](t)(insert.Order(parts, base, at(0, 0, 1))), []int{7, 6, 5, 4, 3, 2, 1, 0})
	same(t, "Order of more than fit the base", fine[[]int](t)(insert.Order(parts, base, at(8, 0, 1))), []int{0, 1, 2, 3, 4, 5, 6, 7})
	same(t, "Locked", fine[[]int](t)(insert.Locked(append(parts[:7:7], base), base, at(0, 0, 1))), []int{7})
}
