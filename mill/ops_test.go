package mill_test

import (
	"slices"
	"testing"

	"cusp/api"
	"cusp/mill"
)

// P8.2: Left, Removed, CheckMilled and Fewest.

func TestOperationsOfTheExamples(t *testing.T) {
	same(t, "a thick tool", fine[[]api.Cell](t)(mill.Left(cross(), []mill.Op{op("end", 1, 0)})), []api.Cell{at(1, 1, 0)})
	same(t, "a thin tool", fine[[]api.Cell](t)(mill.Left(cross(), []mill.Op{op("end", 0, 0)})), nil)
	upper := mill.Setup{Blank: blankB(), Part: []api.Cell{at(1, 1, 1)}}
	same(t, "below the part", fine[[]api.Cell](t)(mill.Left(upper, []mill.Op{op("end", 0, 0)})), []api.Cell{at(1, 1, 0)})
	for dir := 1; dir <= 4; dir++ {
		same(t, "from the side", fine[[]api.Cell](t)(mill.Left(upper, []mill.Op{op("end", 0, 0), op("end", 0, dir)})), nil)
	}
	ops := []mill.Op{op("end", 0, 0), op("end", 0, 1), op("end", 0, 3)}
	same(t, "the fewest of three", fine[[]int](t)(mill.Fewest(upper, ops)), []int{0, 1})
	same(t, "Removed", fine[[]int](t)(mill.Removed(upper, ops)), []int{16, 1, 0})
	same(t, "milled", mill.CheckMilled(upper, ops), api.OK)
	same(t, "not milled", mill.CheckMilled(upper, ops[:1]), api.ErrTool)
	same(t, "not milled at all", mill.CheckMilled(upper, nil), api.ErrTool)
}

// fewest returns the first of the shortest lists of operations that leave what all of them leave, by the definition.
func fewest(s mill.Setup, l []mill.Op) []int {
	rest := left(s, l)
	lists := [][]int{nil}
	for {
		var longer [][]int
		for _, numbers := range lists {
			chosen := made(numbers, func(i int) mill.Op { return l[i] })
			if slices.Equal(left(s, chosen), rest) {
				return numbers
			}
			next := 0
			if len(numbers) > 0 {
				next = numbers[len(numbers)-1] + 1
			}
			for ; next < len(l); next++ {
				longer = append(longer, append(slices.Clone(numbers), next))
			}
		}
		lists = longer
	}
}

func TestOperations(t *testing.T) {
	r := dice()
	sizes, milled := map[int]int{}, 0
	for range 500 {
		s, l := randomSetup(r), randomOps(r, 6, 2)
		rest := left(s, l)
		same(t, "Left", fine[[]api.Cell](t)(mill.Left(s, l)), rest)
		wanted := api.ErrTool
		if len(rest) == 0 {
			wanted, milled = api.OK, milled+1
		}
		same(t, "CheckMilled", mill.CheckMilled(s, l), wanted)
		var counts []int
		for i := range l {
			counts = append(counts, len(left(s, l[:i]))-len(left(s, l[:i+1])))
		}
		same(t, "Removed", fine[[]int](t)(mill.Removed(s, l)), counts)
		got := fine[[]int](t)(mill.Fewest(s, l))
		same(t, "Fewest", got, fewest(s, l))
		sizes[len(got)]++
	}
	if sizes[0] < 20 || sizes[1] < 20 || sizes[2] < 20 || sizes[3] < 10 || milled < 50 {
		t.Errorf("numbers of operations that are needed: %v; %d parts milled", sizes, milled)
	}
}

// TestFewestOfManyLists: of several lists of two operations the lexicographically first one is found, also if it has the last operation.
func TestFewestOfManyLists(t *testing.T) {
	// Between the corners there is a cross: each of its bars is taken away from either of its ends.
	s := mill.Setup{Blank: boxOf(at(0, 0, 0), at(2, 2, 0)), Part: []api.Cell{at(0, 0, 0), at(0, 2, 0), at(2, 0, 0), at(2, 2, 0)}}
	east, west, north, south := op("end", 0, 1), op("end", 0, 2), op("end", 0, 3), op("end", 0, 4)
	same(t, "no operation of two alone", fine[[]int](t)(mill.Fewest(s, []mill.Op{east, west, north, south})), []int{0, 2})
	same(t, "another order", fine[[]int](t)(mill.Fewest(s, []mill.Op{east, west, west, south})), []int{0, 3})
	same(t, "as many as are permitted", fine[[]int](t)(mill.Fewest(s, []mill.Op{east, east, east, east, east, east, east, north})), []int{0, 7})
	same(t, "the last one does all", fine[[]int](t)(mill.Fewest(s, []mill.Op{east, west, north, south, east, west, north, op("end", 0, 0)})), []int{7})
	same(t, "none is there", fine[[]int](t)(mill.Fewest(s, nil)), nil)
	// A wall takes all that is behind it from the tools.
	s.Part = setOf(append(s.Part, at(2, 1, 0))...)
	same(t, "the first one does nothing", fine[[]int](t)(mill.Fewest(s, []mill.Op{east, south, west, north})), []int{1, 2})
	same(t, "none is needed", fine[[]int](t)(mill.Fewest(s, []mill.Op{east, op("ball", 1, 1)})), nil)
	same(t, "nor is there one that does what the other ones do", fine[[]int](t)(mill.Fewest(s, []mill.Op{south, east, north})), []int{0})
}

// TestManyOperations: 32 operations in a large blank.
func TestManyOperations(t *testing.T) {
	b := boxOf(at(-8, -8, 0), at(7, 7, 15))
	below := block(boxOf(b.Low, at(7, 7, 7)))
	s := mill.Setup{Blank: b, Part: block(boxOf(at(-8, -8, 8), at(7, 7, 8)))}
	var l []mill.Op
	for i := range 32 {
		l = append(l, op("end", 8-i/4, 0))
	}
	same(t, "below the part", fine[[]api.Cell](t)(mill.Left(s, l)), below)
	same(t, "above the part", fine[[]int](t)(mill.Removed(s, l)), append([]int{7 * 256}, make([]int, 31)...))
	same(t, "not milled", mill.CheckMilled(s, l), api.ErrTool)
	l[31] = op("end", 0, 4)
	same(t, "a thin tool from the side", mill.CheckMilled(s, l), api.OK)
	same(t, "the last one counted", fine[[]int](t)(mill.Removed(s, l)), slices.Concat([]int{7 * 256}, make([]int, 30), []int{8 * 256}))
}

func TestErrorsOfOperations(t *testing.T) {
	fail := func(what string, s mill.Setup, l []mill.Op, wanted api.Errno) {
		t.Helper()
		cells, e := mill.Left(s, l)
		refused(t, "Left: "+what, cells, e, wanted)
		counts, e := mill.Removed(s, l)
		refused(t, "Removed: "+what, counts, e, wanted)
		same(t, "CheckMilled: "+what, mill.CheckMilled(s, l), wanted)
		numbers, e := mill.Fewest(s, l)
		refused(t, "Fewest: "+what, numbers, e, wanted)
	}
	right := op("end", 0, 0)
	for _, f := range faultySetups() {
		fail(f.what, f.arg, make([]mill.Op, 33), f.e)
	}
	fail("too many operations", cross(), many(33, right), api.ErrMany)
	fail("too many operations with errors", cross(), make([]mill.Op, 33), api.ErrMany)
	for _, f := range faultyOps() {
		fail(f.what, cross(), []mill.Op{f.arg}, f.e)
		fail("the last one of nine: "+f.what, cross(), append(many(8, right), f.arg), f.e)
	}
	fail("the first one of two with errors", cross(), []mill.Op{right, op("end", 9, 0), op("saw", 0, 0)}, api.ErrRange)
	fail("the first one of two others", cross(), []mill.Op{right, op("saw", 0, 0), op("end", 9, 0)}, api.ErrKind)
	for _, n := range []int{9, 32} {
		numbers, e := mill.Fewest(cross(), many(n, right))
		refused(t, "Fewest of many", numbers, e, api.ErrLimit)
		same(t, "CheckMilled by many", mill.CheckMilled(cross(), many(n, right)), api.OK)
	}
	same(t, "Fewest of eight", fine[[]int](t)(mill.Fewest(cross(), many(8, right))), []int{0})
	same(t, "Removed by none", fine[[]int](t)(mill.Removed(cross(), nil)), nil)
	same(t, "Left by none", fine[[]api.Cell](t)(mill.Left(cross(), nil)), without(block(blankB()), cross().Part))
	same(t, "milled without a tool", mill.CheckMilled(mill.Setup{Blank: blankB(), Part: block(blankB())}, nil), api.OK)
}

func TestMemoryOfOperations(t *testing.T) {
	s, l := cross(), []mill.Op{op("end", 1, 0), op("ball", 1, 0), op("end", 0, 1)}
	part, ops := slices.Clone(s.Part), slices.Clone(l)
	one := fine[[]api.Cell](t)(mill.Left(s, l[:1]))
	one[0] = at(9, 9, 9)
	same(t, "Left again", fine[[]api.Cell](t)(mill.Left(s, l[:1])), []api.Cell{at(1, 1, 0)})
	numbers := fine[[]int](t)(mill.Fewest(s, l))
	numbers[0] = 9
	same(t, "Fewest again", slices.Contains(fine[[]int](t)(mill.Fewest(s, l)), 9), false)
	fine[[]int](t)(mill.Removed(s, l))
	same(t, "the part", s.Part, part)
	same(t, "the operations", l, ops)
}
