package cast_test

import (
	"slices"
	"testing"

	"cusp/api"
	"cusp/cast"
)

func chapterScans() (above, below cast.Scan) {
	return cast.Scan{Side: 5, Box: chapterBox(), Empty: []int{0, 1}}, cast.Scan{Side: 4, Box: chapterBox(), Empty: []int{0, 1}}
}

func TestJoin(t *testing.T) {
	above, below := chapterScans()
	got := fine[cast.Known](t)(cast.Join([]cast.Scan{above, below}))
	same(t, "Join", got, cast.Known{
		Solid: []api.Cell{at(0, 0, -2), at(0, 0, 1), at(1, 0, -1), at(1, 0, 0)},
		Empty: []api.Cell{at(1, 0, -2), at(1, 0, 1)},
		Open:  []api.Cell{at(0, 0, -1), at(0, 0, 0)},
	})
	same(t, "Unseen", fine[[]api.Cell](t)(cast.Unseen([]cast.Scan{above, below})), nil)
	same(t, "Conflicts", fine[[]api.Cell](t)(cast.Conflicts([]cast.Scan{above, below})), nil)
	one := fine[cast.Known](t)(cast.Join([]cast.Scan{above}))
	same(t, "Join of one", one, cast.Known{
		Solid: []api.Cell{at(0, 0, 1), at(1, 0, 0)},
		Empty: []api.Cell{at(1, 0, 1)},
		Open:  []api.Cell{at(0, 0, -2), at(0, 0, -1), at(0, 0, 0), at(1, 0, -2), at(1, 0, -1)},
	})
	same(t, "Join of 16", fine[cast.Known](t)(cast.Join(slices.Repeat([]cast.Scan{above}, 16))), one)
	// Both call a cell solid, and both call one empty.
	through := cast.Scan{Side: 2, Box: chapterBox(), Empty: []int{0, 0, 0, 0, 1, 0, 0, 1}}
	same(t, "Join with the same cells", fine[cast.Known](t)(cast.Join([]cast.Scan{above, through})), cast.Known{
		Solid: chapterCells(),
		Empty: []api.Cell{at(1, 0, -2), at(1, 0, 1)},
	})
}

func TestConflicts(t *testing.T) {
	above, below := chapterScans()
	above.Empty = []int{1, 2}
	below.Empty = []int{4, 1}
	scans := []cast.Scan{above, below}
	same(t, "Conflicts", fine[[]api.Cell](t)(cast.Conflicts(scans)), []api.Cell{at(0, 0, 0)})
	same(t, "Conflicts the other way round", fine[[]api.Cell](t)(cast.Conflicts([]cast.Scan{below, above})), []api.Cell{at(0, 0, 0)})
	got, e := cast.Join(scans)
	refused(t, "Join", got, e, api.ErrConflict)
	// The conflict at 0 0 0 is empty, too: below it 0 0 -1 is empty, and nothing is open but 1 0 1.
	same(t, "Unseen beside a conflict", fine[[]api.Cell](t)(cast.Unseen(scans)), nil)
}

func TestUnseen(t *testing.T) {
	above, _ := chapterScans()
	above.Empty = []int{0, 3}
	same(t, "Unseen", fine[[]api.Cell](t)(cast.Unseen([]cast.Scan{above})), []api.Cell{at(0, 0, -1), at(0, 0, 0)})
	// What is empty beyond the box is not known.
	above.Empty = []int{0, 0}
	same(t, "Unseen without empty cells", fine[[]api.Cell](t)(cast.Unseen([]cast.Scan{above})), nil)
	// The cells behind 0 1 0 are hidden, with empty rows on both sides.
	b := box(at(0, 0, 0), at(2, 2, 0))
	front := cast.Scan{Side: 0, Box: b, Empty: []int{3, 0, 3}}
	same(t, "Unseen behind a cell", fine[[]api.Cell](t)(cast.Unseen([]cast.Scan{front})), []api.Cell{at(1, 1, 0), at(2, 1, 0)})
	// A conflict is empty by one of the scans: its neighbours are unseen.
	b = box(at(0, 0, 0), at(2, 1, 0))
	left := cast.Scan{Side: 2, Box: b, Empty: []int{0, 2, 0}}
	right := cast.Scan{Side: 2, Box: b, Empty: []int{0, 1, 0}}
	same(t, "Conflicts", fine[[]api.Cell](t)(cast.Conflicts([]cast.Scan{left, right})), []api.Cell{at(1, 1, 0)})
	same(t, "Unseen beside a conflict", fine[[]api.Cell](t)(cast.Unseen([]cast.Scan{left, right})), []api.Cell{at(0, 1, 0), at(2, 1, 0)})
	left.Empty, right.Empty = []int{1, 0, 0}, []int{0, 0, 0}
	same(t, "Unseen at a corner of a conflict", fine[[]api.Cell](t)(cast.Unseen([]cast.Scan{left, right})), nil)
}

// TestRandomScans compares what scans know with a look at each cell of the box by itself.
func TestRandomScans(t *testing.T) {
	r := dice()
	for range 300 {
		b := randomBox(r)
		var scans []cast.Scan
		for range 1 + r.IntN(3) {
			scans = append(scans, randomScan(r, b))
		}
		says := func(c api.Cell) (solid, empty bool) {
			for _, s := range scans {
				for i, line := range sight(b, s.Side) {
					n := slices.Index(line, c)
					solid = solid || n >= 0 && n == s.Empty[i]
					empty = empty || n >= 0 && n < s.Empty[i]
				}
			}
			return solid, empty
		}
		var known cast.Known
		var conflicts, unseen []api.Cell
		for _, c := range block(t, b.Low, b.High) {
			solid, empty := says(c)
			if solid {
				known.Solid = append(known.Solid, c)
			}
			if empty {
				known.Empty = append(known.Empty, c)
			}
			if solid && empty {
				conflicts = append(conflicts, c)
			}
			if solid || empty {
				continue
			}
			known.Open = append(known.Open, c)
			beside := false
			for axis := range 3 {
				for _, by := range []int{-1, 1} {
					_, is := says(moved(c, axis, by))
					beside = beside || is
				}
			}
			if beside {
				unseen = append(unseen, c)
			}
		}
		same(t, "Conflicts", fine[[]api.Cell](t)(cast.Conflicts(scans)), conflicts)
		same(t, "Unseen", fine[[]api.Cell](t)(cast.Unseen(scans)), unseen)
		got, e := cast.Join(scans)
		if len(conflicts) > 0 {
			refused(t, "Join", got, e, api.ErrConflict)
		} else {
			same(t, "Join", e, api.OK)
			same(t, "Join", got, known)
		}
	}
}

// TestFaultyScans gives lists of scans with an error to all functions that take one.
func TestFaultyScans(t *testing.T) {
	above, below := chapterScans()
	other := cast.Scan{Side: 5, Box: box(at(0, 0, -2), at(1, 0, 0)), Empty: []int{0, 0}}
	hits := cast.Scan{Side: 4, Box: chapterBox(), Empty: []int{4, 4}}
	type row struct {
		what string
		l    []cast.Scan
		e    api.Errno
	}
	rows := []row{
		{"no scans", nil, api.ErrEmpty}, {"17 scans", slices.Repeat([]cast.Scan{above}, 17), api.ErrMany}, {"17 scans that are none", make([]cast.Scan, 17), api.ErrMany},
		{"another box", []cast.Scan{above, other}, api.ErrShape}, {"another box at the end", []cast.Scan{above, below, above, other}, api.ErrShape},
		{"another box, then no side", []cast.Scan{above, other, {Side: 6}}, api.ErrShape}, {"no side, then another box", []cast.Scan{above, {Side: 6}, other}, api.ErrKind},
		{"a conflict, then another box", []cast.Scan{above, hits, other}, api.ErrShape},
	}
	for _, f := range faultyScans() {
		rows = append(rows, row{f.what, []cast.Scan{f.s, other}, f.e}, row{f.what, []cast.Scan{above, hits, f.s}, f.e})
	}
	for _, row := range rows {
		l, e := cast.Conflicts(row.l)
		refused(t, "Conflicts, "+row.what, l, e, row.e)
		k, e := cast.Join(row.l)
		refused(t, "Join, "+row.what, k, e, row.e)
		l, e = cast.Unseen(row.l)
		refused(t, "Unseen, "+row.what, l, e, row.e)
	}
}
