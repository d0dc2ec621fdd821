package mill_test

import (
	"math/big"
	"slices"
	"testing"

	"cusp/api"
	"cusp/grid"
	"cusp/mill"
)

// P8.4: Filling, Short and Layers.

func TestFilling(t *testing.T) {
	same(t, "three cells of 18", fine[api.Rat](t)(mill.Filling(nestOf(blankB(), 0, bar(2), bar(1)))), "1/6")
	same(t, "no parts", fine[api.Rat](t)(mill.Filling(nestOf(blankB(), 0))), "0")
	same(t, "all", fine[api.Rat](t)(mill.Filling(nestOf(blankB(), 0, block(blankB())))), "1")
	same(t, "more than all", fine[api.Rat](t)(mill.Filling(nestOf(line(2), 0, bar(2), bar(3)))), "5/2")
	largest := boxOf(at(-1000, -1000, -1000), at(-985, -985, -985))
	same(t, "as many cells as are permitted in a cell", fine[api.Rat](t)(mill.Filling(mill.Nest{Blank: boxOf(at(1000, 0, 0), at(1000, 0, 0)), Parts: many(64, block(largest)), Gap: 64})), "262144")
	same(t, "a cell of as many as are permitted", fine[api.Rat](t)(mill.Filling(nestOf(largest, 0, bar(1)))), "1/4096")
	r := dice()
	for range 500 {
		n := randomNest(r)
		cells := 0
		for _, part := range n.Parts {
			cells += len(part)
		}
		same(t, "Filling", string(fine[api.Rat](t)(mill.Filling(n))), big.NewRat(int64(cells), int64(len(block(n.Blank)))).RatString())
	}
	for _, f := range faultyNests() {
		got, e := mill.Filling(f.arg)
		refused(t, f.what, got, e, f.e)
	}
}

// shortest returns the shortest sprue of a part by the definition; its direction is 0 if there is none.
func shortest(n mill.Nest, l []mill.Place, part int) mill.Sprue {
	isTaken := map[api.Cell]bool{}
	for i, p := range l {
		for _, c := range placed(n.Parts[i], p) {
			isTaken[c] = true
		}
	}
	for length := range 20 {
		for _, from := range placed(n.Parts[part], l[part]) {
			for dir := 1; dir <= 4; dir++ {
				var cells []api.Cell
				for i := range length + 1 {
					d := spindles()[dir]
					cells = append(cells, plus(from, at(d.X*(i+1), d.Y*(i+1), d.Z*(i+1))))
				}
				isFree := !slices.ContainsFunc(cells[:length], func(c api.Cell) bool { return isTaken[c] })
				if isFree && isIn(n.Blank, cells[:length]...) && !isIn(n.Blank, cells[length]) {
					return mill.Sprue{From: from, Dir: dir, Length: length}
				}
			}
		}
	}
	return mill.Sprue{}
}

func TestShort(t *testing.T) {
	r := dice()
	lengths, others := map[int]int{}, 0
	for range 2000 {
		n := mill.Nest{Blank: randomBox(r, 8, 8, 2)}
		var places []mill.Place
		for range between(r, 1, 40) {
			part := randomSet(r, between(r, 1, 3), randomBox(r, 2, 2, 2))
			p := mill.Place{Quarters: r.IntN(4), At: randomCell(r, n.Blank)}
			n.Parts, places = append(n.Parts, part), append(places, p)
			if errorOf(n, places) != api.OK {
				n.Parts, places = n.Parts[:len(n.Parts)-1], places[:len(places)-1]
			}
		}
		for i := range n.Parts {
			wanted := shortest(n, places, i)
			got, e := mill.Short(n, places, i)
			if wanted.Dir == 0 {
				refused(t, "Short of an enclosed part", got, e, api.ErrNone)
				others++
				continue
			}
			same(t, "the error of Short", e, api.OK)
			same(t, "Short", got, wanted)
			lengths[got.Length]++
		}
	}
	if lengths[0] < 100 || lengths[1] < 100 || lengths[2] < 100 || lengths[3] < 1 || others < 10 {
		t.Errorf("the lengths of sprues: %v; %d parts have none", lengths, others)
	}
}

// TestShortOfSeveral: the least length decides, then the least cell, then the least direction; what is above or below does not matter.
func TestShortOfSeveral(t *testing.T) {
	b := boxOf(at(0, 0, 0), at(6, 6, 2))
	for _, c := range []struct {
		what   string
		parts  [][]api.Cell
		places []mill.Place
		wanted mill.Sprue
	}{
		{"all directions", [][]api.Cell{bar(1)}, []mill.Place{to(3, 3, 1)}, mill.Sprue{From: at(3, 3, 1), Dir: 1, Length: 3}},
		{"to X below", [][]api.Cell{bar(1)}, []mill.Place{to(2, 3, 1)}, mill.Sprue{From: at(2, 3, 1), Dir: 2, Length: 2}},
		{"to Y above", [][]api.Cell{bar(1)}, []mill.Place{to(2, 5, 1)}, mill.Sprue{From: at(2, 5, 1), Dir: 3, Length: 1}},
		{"to Y below", [][]api.Cell{bar(1)}, []mill.Place{to(3, 1, 1)}, mill.Sprue{From: at(3, 1, 1), Dir: 4, Length: 1}},
		{"never up or down", [][]api.Cell{bar(1)}, []mill.Place{to(3, 3, 2)}, mill.Sprue{From: at(3, 3, 2), Dir: 1, Length: 3}},
		{"at the wall", [][]api.Cell{bar(1)}, []mill.Place{to(6, 0, 1)}, mill.Sprue{From: at(6, 0, 1), Dir: 1}},
		{"at the wall, a later cell", [][]api.Cell{bar(2)}, []mill.Place{to(5, 3, 1)}, mill.Sprue{From: at(6, 3, 1), Dir: 1}},
		{"the first of two cells at the wall", [][]api.Cell{bar(4)}, []mill.Place{to(3, 0, 0)}, mill.Sprue{From: at(3, 0, 0), Dir: 4}},
		{"the first cell of a bar", [][]api.Cell{bar(3)}, []mill.Place{to(2, 3, 0)}, mill.Sprue{From: at(2, 3, 0), Dir: 2, Length: 2}},
		{"the other way around", [][]api.Cell{bar(1), bar(1)}, []mill.Place{to(2, 3, 0), to(1, 3, 0)}, mill.Sprue{From: at(2, 3, 0), Dir: 3, Length: 3}},
		{"behind a part", [][]api.Cell{bar(1), bar(1)}, []mill.Place{to(1, 3, 0), to(0, 3, 0)}, mill.Sprue{From: at(1, 3, 0), Dir: 3, Length: 3}},
		{"below a part", [][]api.Cell{bar(1), bar(7)}, []mill.Place{to(1, 3, 0), to(0, 3, 1)}, mill.Sprue{From: at(1, 3, 0), Dir: 2, Length: 1}},
		{"not through the part itself", [][]api.Cell{{at(0, 0, 0), at(2, 0, 0)}}, []mill.Place{to(1, 3, 0)}, mill.Sprue{From: at(1, 3, 0), Dir: 2, Length: 1}},
		{"out between its arms", [][]api.Cell{{at(0, 0, 0), at(0, 1, 0), at(0, 2, 0), at(1, 0, 0), at(1, 2, 0)}}, []mill.Place{to(2, 2, 0)}, mill.Sprue{From: at(2, 2, 0), Dir: 2, Length: 2}},
	} {
		same(t, c.what, fine[mill.Sprue](t)(mill.Short(nestOf(b, 0, c.parts...), c.places, 0)), c.wanted)
	}
	long := nestOf(boxOf(at(-1000, 0, 0), at(1000, 1, 0)), 0, bar(1), bar(1), bar(1))
	places := []mill.Place{to(1, 0, 0), to(1, 1, 0), to(-1000, 0, 0)}
	same(t, "a long sprue is not the shortest one", fine[mill.Sprue](t)(mill.Short(long, places, 0)), mill.Sprue{From: at(1, 0, 0), Dir: 4})
	row := nestOf(boxOf(at(-1000, 0, 0), at(1000, 0, 0)), 0, bar(2001))
	row.Parts[0] = []api.Cell{at(-1000, 0, 0)}
	same(t, "a cell at the end of the grid", fine[mill.Sprue](t)(mill.Short(row, []mill.Place{to(1000, 0, 0)}, 0)), mill.Sprue{From: at(1000, 0, 0), Dir: 1})
	same(t, "in a row, the wall is beside each cell", fine[mill.Sprue](t)(mill.Short(row, []mill.Place{to(0, 0, 0)}, 0)), mill.Sprue{From: at(0, 0, 0), Dir: 3})
}

func TestErrorsOfShort(t *testing.T) {
	fail := func(what string, n mill.Nest, l []mill.Place, part int, wanted api.Errno) {
		t.Helper()
		got, e := mill.Short(n, l, part)
		refused(t, what, got, e, wanted)
	}
	for _, f := range faultyNests() {
		fail(f.what, f.arg, nil, -1, f.e)
	}
	n := nestOf(boxOf(at(0, 0, 0), at(4, 4, 0)), 0, bar(1), []api.Cell{at(0, 1, 0), at(1, 0, 0), at(1, 2, 0), at(2, 1, 0)})
	inside := []mill.Place{to(2, 2, 0), to(1, 1, 0)}
	fail("too few places", n, inside[:1], -1, api.ErrShape)
	fail("too many places", n, many(3, to(9, 9, 9)), -1, api.ErrShape)
	for _, f := range faultyPlaces() {
		fail(f.what, n, []mill.Place{to(9, 9, 9), f.arg}, -1, f.e)
	}
	fail("out of the blank", n, []mill.Place{to(5, 2, 0), to(1, 1, 0)}, -1, api.ErrRule)
	fail("in each other", n, []mill.Place{to(1, 2, 0), to(1, 1, 0)}, -1, api.ErrHit)
	fail("enclosed", n, inside, 0, api.ErrNone)
	for _, part := range []int{-1, 2, least, greatest} {
		fail("no such part", n, inside, part, api.ErrUnknown)
		fail("no parts", nestOf(n.Blank, 0), nil, part, api.ErrUnknown)
	}
	n.Gap = 1
	fail("too near", n, inside, -1, api.ErrGap)
	full := nestOf(blankB(), 0, block(blankB()))
	same(t, "a part as large as the blank", fine[mill.Sprue](t)(mill.Short(full, []mill.Place{{}}, 0)), mill.Sprue{Dir: 2})
}

func TestLayers(t *testing.T) {
	same(t, "layers of B", fine[[]int](t)(mill.Layers(blankB(), []int{1, 1}, []api.Cell{at(0, 0, 0), at(0, 0, 1), at(1, 1, 1)})), []int{1, 2})
	r := dice()
	for range 1000 {
		b := randomBox(r, 3, 3, 9)
		// Each height is drawn from what is left, so that the heights are as high as the blank.
		var heights, wanted []int
		l := randomSet(r, 30, b)
		for z := b.Low.Z; z <= b.High.Z; {
			h := between(r, 1, b.High.Z-z+1)
			inside := without(l, without(l, block(boxOf(at(b.Low.X, b.Low.Y, z), at(b.High.X, b.High.Y, z+h-1)))))
			heights, wanted, z = append(heights, h), append(wanted, len(inside)), z+h
		}
		same(t, "Layers", fine[[]int](t)(mill.Layers(b, heights, l)), wanted)
	}
}

// TestLayersAtTheEnds: as many layers, as high ones, and as many cells as are permitted.
func TestLayersAtTheEnds(t *testing.T) {
	pole := boxOf(at(0, 0, -1000), at(0, 1, 1000))
	all := block(pole)
	same(t, "one layer", fine[[]int](t)(mill.Layers(pole, []int{2001}, all)), []int{4002})
	same(t, "two layers", fine[[]int](t)(mill.Layers(pole, []int{2000, 1}, all)), []int{4000, 2})
	same(t, "two others", fine[[]int](t)(mill.Layers(pole, []int{1, 2000}, all)), []int{2, 4000})
	same(t, "no cells", fine[[]int](t)(mill.Layers(pole, []int{1000, 1, 1000}, nil)), []int{0, 0, 0})
	cube := boxOf(at(985, 985, 985), at(1000, 1000, 1000))
	same(t, "16 layers", fine[[]int](t)(mill.Layers(cube, many(16, 1), block(cube))), many(16, 256))
}

func TestErrorsOfLayers(t *testing.T) {
	fail := func(what string, b grid.Box, heights []int, l []api.Cell, wanted api.Errno) {
		t.Helper()
		got, e := mill.Layers(b, heights, l)
		refused(t, what, got, e, wanted)
	}
	bad := []api.Cell{at(0, 0, 1001)}
	for _, f := range faultyBlanks() {
		fail(f.what, f.arg, nil, bad, f.e)
	}
	fail("no heights", blankB(), nil, bad, api.ErrEmpty)
	fail("too many heights", blankB(), make([]int, 17), bad, api.ErrMany)
	fail("too many heights for a blank", boxOf(at(0, 0, 0), at(0, 0, 16)), many(17, 1), bad, api.ErrMany)
	for _, h := range outOf(1, 2001) {
		fail("a height", blankB(), []int{h}, bad, api.ErrRange)
		fail("a height behind another one", blankB(), []int{2, h}, bad, api.ErrRange)
		fail("a height that is made up for", blankB(), []int{2 - h, h}, bad, api.ErrRange)
	}
	for _, heights := range [][]int{{1}, {3}, {1, 2}, {2001}, {2001, 2001}, many(16, 2001)} {
		fail("another height than that of the blank", blankB(), heights, bad, api.ErrShape)
	}
	for _, f := range faultySets() {
		fail(f.what, boxOf(at(1, 1, 1), at(2, 2, 2)), []int{1, 1}, f.arg, f.e)
	}
	for _, c := range []api.Cell{at(-1, 0, 0), at(3, 0, 0), at(0, -1, 0), at(0, 3, 0), at(0, 0, -1), at(0, 0, 2)} {
		fail("a cell out of the blank", blankB(), []int{1, 1}, setOf(c, at(1, 1, 1)), api.ErrRule)
	}
}

func TestMemoryOfBlanks(t *testing.T) {
	heights, cells := []int{1, 1}, []api.Cell{at(0, 0, 0), at(0, 0, 1)}
	got := fine[[]int](t)(mill.Layers(blankB(), heights, cells))
	got[0] = 9
	same(t, "the heights", heights, []int{1, 1})
	same(t, "the cells", cells, []api.Cell{at(0, 0, 0), at(0, 0, 1)})
	same(t, "Layers again", fine[[]int](t)(mill.Layers(blankB(), heights, cells)), []int{1, 1})
	n := nestOf(blankB(), 0, bar(2), bar(1))
	before, places := copiedNest(n), []mill.Place{to(0, 0, 0), to(0, 2, 1)}
	fine[mill.Sprue](t)(mill.Short(n, places, 1))
	fine[api.Rat](t)(mill.Filling(n))
	same(t, "the nest", n, before)
	same(t, "the places", places, []mill.Place{to(0, 0, 0), to(0, 2, 1)})
}
