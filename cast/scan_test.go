package cast_test

import (
	"math/rand/v2"
	"slices"
	"testing"

	"cusp/api"
	"cusp/cast"
	"cusp/grid"
)

// sight returns the lines of a side of a box, each with its cells as they are seen one behind the other.
func sight(b grid.Box, side int) [][]api.Cell {
	axis := side / 2
	all, _ := grid.Block(b)
	var lines [][]api.Cell
	for _, c := range all {
		if parts(c)[axis] != parts(b.Low)[axis] {
			continue
		}
		var line []api.Cell
		for ; parts(c)[axis] <= parts(b.High)[axis]; c = moved(c, axis, 1) {
			line = append(line, c)
		}
		if side%2 == 1 {
			slices.Reverse(line)
		}
		lines = append(lines, line)
	}
	return lines
}

// randomScan returns a scan of a box that need not be that of any cast.
func randomScan(r *rand.Rand, b grid.Box) cast.Scan {
	s := cast.Scan{Side: r.IntN(6), Box: b}
	for _, line := range sight(b, s.Side) {
		s.Empty = append(s.Empty, r.IntN(len(line)+1))
	}
	return s
}

func TestLook(t *testing.T) {
	for side, want := range [][]int{{0, 0, 0, 0}, {1, 0, 0, 1}, {0, 0, 0, 0, 1, 0, 0, 1}, {0, 0, 0, 0, 1, 0, 0, 1}, {0, 1}, {0, 1}} {
		got := fine[cast.Scan](t)(cast.Look(chapterCells(), side, chapterBox()))
		same(t, "Look at C", got, cast.Scan{Side: side, Box: chapterBox(), Empty: want})
	}
	// One cell in a box of 2 by 3 by 4: no two sides have their lines alike.
	b, cell := box(at(-1, 5, 2), at(0, 7, 5)), []api.Cell{at(-1, 5, 3)}
	for side, want := range [][]int{
		{2, 0, 2, 2, 2, 2, 2, 2, 2, 2, 2, 2}, {2, 1, 2, 2, 2, 2, 2, 2, 2, 2, 2, 2},
		{3, 0, 3, 3, 3, 3, 3, 3}, {3, 2, 3, 3, 3, 3, 3, 3},
		{1, 4, 4, 4, 4, 4}, {2, 4, 4, 4, 4, 4},
	} {
		got := fine[cast.Scan](t)(cast.Look(cell, side, b))
		same(t, "Look at a cell", got.Empty, want)
		got = fine[cast.Scan](t)(cast.Look(nil, side, box(at(-2, -2, -2), at(-2, -2, -2))))
		same(t, "Look at nothing", got.Empty, []int{1})
	}
	r := dice()
	for range 200 {
		l, b, side := scattered(r, 4, 1+r.IntN(8)), randomBox(r), r.IntN(6)
		var want []int
		for _, line := range sight(b, side) {
			n := slices.IndexFunc(line, func(c api.Cell) bool { return slices.Contains(l, c) })
			if n < 0 {
				n = len(line)
			}
			want = append(want, n)
		}
		same(t, "Look", fine[cast.Scan](t)(cast.Look(l, side, b)), cast.Scan{Side: side, Box: b, Empty: want})
	}
	long := fine[cast.Scan](t)(cast.Look([]api.Cell{at(-1000, 0, 0), at(1000, 1, 0)}, 1, box(at(-1000, 0, 0), at(1000, 1, 0))))
	same(t, "Look through the grid", long.Empty, []int{2000, 0})
	wide := fine[cast.Scan](t)(cast.Look(nil, 3, box(at(0, 7, 0), at(63, 7, 63))))
	same(t, "the most lines", wide.Empty, slices.Repeat([]int{1}, 4096))
}

func TestErrorsOfLook(t *testing.T) {
	for e, l := range faultyCells() {
		got, gotE := cast.Look(l, 6, box(at(least, 0, 0), at(0, 0, 0)))
		refused(t, "Look at faulty cells", got, gotE, e)
	}
	for _, side := range []int{-1, 6, least, greatest} {
		got, e := cast.Look(chapterCells(), side, box(at(1001, 0, 0), at(0, 0, 0)))
		refused(t, "Look from no side", got, e, api.ErrKind)
	}
	for _, f := range faultyBoxes() {
		for side := range 6 {
			got, e := cast.Look(chapterCells(), side, f.b)
			refused(t, "Look at no box", got, e, f.e)
		}
	}
}

// faultyScan is a scan with an error.
type faultyScan struct {
	what string
	s    cast.Scan
	e    api.Errno
}

func faultyScans() []faultyScan {
	l := []faultyScan{
		{"no side", cast.Scan{Side: -1, Box: chapterBox(), Empty: []int{0, 1}}, api.ErrKind},
		{"no side", cast.Scan{Side: 6, Box: box(at(0, 0, 0), at(1001, 0, 0)), Empty: []int{0, 1}}, api.ErrKind},
		{"no side", cast.Scan{Side: greatest}, api.ErrKind},
		{"no numbers", cast.Scan{Side: 5, Box: chapterBox()}, api.ErrShape},
		{"a number too few", cast.Scan{Side: 5, Box: chapterBox(), Empty: []int{5}}, api.ErrShape},
		{"a number too many", cast.Scan{Side: 5, Box: chapterBox(), Empty: []int{0, 0, 0}}, api.ErrShape},
		{"the numbers of another side", cast.Scan{Side: 0, Box: chapterBox(), Empty: []int{0, 0}}, api.ErrShape},
		{"more than a line", cast.Scan{Side: 5, Box: chapterBox(), Empty: []int{0, 5}}, api.ErrRange},
		{"more than a line along X", cast.Scan{Side: 1, Box: chapterBox(), Empty: []int{0, 0, 3, 0}}, api.ErrRange},
		{"more than a line along Y", cast.Scan{Side: 2, Box: chapterBox(), Empty: []int{0, 0, 0, 0, 0, 2, 0, 0}}, api.ErrRange},
		{"less than 0", cast.Scan{Side: 5, Box: chapterBox(), Empty: []int{-1, 0}}, api.ErrRange},
		{"the greatest number", cast.Scan{Side: 4, Box: chapterBox(), Empty: []int{0, greatest}}, api.ErrRange},
	}
	for _, f := range faultyBoxes() {
		l = append(l, faultyScan{"no box", cast.Scan{Side: 3, Box: f.b}, f.e})
	}
	return l
}

func TestCheckScan(t *testing.T) {
	for side, n := range []int{4, 4, 8, 8, 2, 2} {
		s := cast.Scan{Side: side, Box: chapterBox()}
		for _, most := range []int{0, []int{2, 2, 1, 1, 4, 4}[side]} {
			s.Empty = slices.Repeat([]int{most}, n)
			same(t, "CheckScan", cast.CheckScan(s), api.OK)
		}
	}
	for _, f := range faultyScans() {
		same(t, f.what, cast.CheckScan(f.s), f.e)
		got, e := cast.Seen(f.s)
		refused(t, "Seen, "+f.what, got, e, f.e)
		got, e = cast.Through(f.s)
		refused(t, "Through, "+f.what, got, e, f.e)
		n, e := cast.Agrees(nil, f.s)
		refused(t, "Agrees, "+f.what, n, e, f.e)
	}
}

func TestSeenAndThrough(t *testing.T) {
	above := cast.Scan{Side: 5, Box: chapterBox(), Empty: []int{0, 1}}
	same(t, "Seen", fine[[]api.Cell](t)(cast.Seen(above)), []api.Cell{at(0, 0, 1), at(1, 0, 0)})
	same(t, "Through", fine[[]api.Cell](t)(cast.Through(above)), []api.Cell{at(1, 0, 1)})
	above.Empty = []int{4, 3}
	same(t, "Seen", fine[[]api.Cell](t)(cast.Seen(above)), []api.Cell{at(1, 0, -2)})
	same(t, "Through", fine[[]api.Cell](t)(cast.Through(above)), []api.Cell{at(0, 0, -2), at(0, 0, -1), at(0, 0, 0), at(0, 0, 1), at(1, 0, -1), at(1, 0, 0), at(1, 0, 1)})
	above.Empty = []int{4, 4}
	same(t, "Seen of nothing", fine[[]api.Cell](t)(cast.Seen(above)), nil)
	above.Empty = []int{0, 0}
	same(t, "Through nothing", fine[[]api.Cell](t)(cast.Through(above)), nil)
	r := dice()
	for range 200 {
		s := randomScan(r, randomBox(r))
		var seen, through []api.Cell
		for i, line := range sight(s.Box, s.Side) {
			through = append(through, line[:s.Empty[i]]...)
			seen = append(seen, line[s.Empty[i]:min(s.Empty[i]+1, len(line))]...)
		}
		same(t, "Seen", fine[[]api.Cell](t)(cast.Seen(s)), ascending(seen))
		same(t, "Through", fine[[]api.Cell](t)(cast.Through(s)), ascending(through))
	}
	most := cast.Scan{Side: 0, Box: box(at(0, 0, 0), at(15, 15, 15)), Empty: slices.Repeat([]int{16}, 256)}
	same(t, "Through the most cells", fine[[]api.Cell](t)(cast.Through(most)), block(t, at(0, 0, 0), at(15, 15, 15)))
}

func TestAgrees(t *testing.T) {
	for e, l := range faultyCells() {
		n, gotE := cast.Agrees(l, cast.Scan{Side: 6})
		refused(t, "Agrees with faulty cells", n, gotE, e)
	}
	for side := range 6 {
		s := fine[cast.Scan](t)(cast.Look(chapterCells(), side, chapterBox()))
		n, e := cast.Agrees(chapterCells(), s)
		refused(t, "Agrees in all lines", n, e, api.ErrNone)
		for i := range s.Empty {
			other := s
			other.Empty = slices.Clone(s.Empty)
			other.Empty[i] = 1 - other.Empty[i]
			same(t, "the line that differs", fine[int](t)(cast.Agrees(chapterCells(), other)), i)
			for k := range other.Empty[:i] {
				other.Empty[k] = 1 - other.Empty[k]
				same(t, "the first line that differs", fine[int](t)(cast.Agrees(chapterCells(), other)), k)
				other.Empty[k] = s.Empty[k]
			}
		}
	}
	// Behind the first cell of a line the cells do not matter.
	s := cast.Scan{Side: 5, Box: chapterBox(), Empty: []int{0, 1}}
	n, e := cast.Agrees([]api.Cell{at(0, 0, 1), at(1, 0, 0), at(7, 7, 7)}, s)
	refused(t, "Agrees with the cells that it has seen", n, e, api.ErrNone)
	same(t, "Agrees with nothing", fine[int](t)(cast.Agrees(nil, s)), 0)
}
