package mill_test

import (
	"slices"
	"testing"

	"cusp/api"
	"cusp/mill"
)

// P8.1: CheckTool, Occupied, CheckSetup, Centres and Reach.

func TestToolsOfTheExamples(t *testing.T) {
	b := blankB()
	same(t, "a ball from above", fine[[]api.Cell](t)(mill.Occupied(b, op("ball", 1, 0), at(1, 1, 1))), []api.Cell{at(0, 1, 1), at(1, 0, 1), at(1, 1, 0), at(1, 1, 1), at(1, 2, 1), at(2, 1, 1)})
	same(t, "an end mill from the side", fine[[]api.Cell](t)(mill.Occupied(b, op("end", 0, 1), at(1, 1, 0))), []api.Cell{at(1, 1, 0), at(2, 1, 0)})
	s := mill.Setup{Blank: b, Part: []api.Cell{at(1, 1, 0)}}
	for radius := range 2 {
		same(t, "all but the part", fine[[]api.Cell](t)(mill.Reach(s, op("end", radius, 0))), without(block(b), s.Part))
	}
	stands := fine[[]api.Cell](t)(mill.Centres(s, op("end", 1, 0)))
	for _, c := range block(boxOf(at(-1, -1, 0), at(3, 3, 1))) {
		isNear := c.Z == 0 && apart([]api.Cell{c}, []api.Cell{at(1, 1, 0)}) <= 1
		same(t, "a centre of a thick tool", slices.Contains(stands, c), !isNear)
	}
}

func TestToolsByTheirShape(t *testing.T) {
	b := boxOf(at(-1, -1, -3), at(1, 1, 2))
	// A ball of the radius 2 has a cell two steps below its centre, eight around it one step below, and 9 of the 3 by 3 cells from there on.
	l := fine[[]api.Cell](t)(mill.Occupied(b, op("ball", 2, 0), at(0, 0, 0)))
	levels := map[int]int{}
	for _, c := range l {
		levels[c.Z]++
	}
	same(t, "a ball of the radius 2", levels, map[int]int{-2: 1, -1: 9, 0: 9, 1: 9, 2: 9})
	// The cells at the corners are as far as the square root of 2: not in the radius 1.
	l = fine[[]api.Cell](t)(mill.Occupied(b, op("end", 1, 0), at(0, 0, 0)))
	same(t, "an end mill of the radius 1", len(l), 15)
	// From the side the tool lies: its shank goes to the wall.
	for _, c := range []struct {
		dir    int
		wanted []api.Cell
	}{
		{0, []api.Cell{at(0, 0, 1), at(0, 0, 2)}},
		{1, []api.Cell{at(0, 0, 1), at(1, 0, 1)}},
		{2, []api.Cell{at(-1, 0, 1), at(0, 0, 1)}},
		{3, []api.Cell{at(0, 0, 1), at(0, 1, 1)}},
		{4, []api.Cell{at(0, -1, 1), at(0, 0, 1)}},
	} {
		same(t, "a line along the direction", fine[[]api.Cell](t)(mill.Occupied(b, op("end", 0, c.dir), at(0, 0, 1))), c.wanted)
		same(t, "a ball without a radius", fine[[]api.Cell](t)(mill.Occupied(b, op("ball", 0, c.dir), at(0, 0, 1))), c.wanted)
	}
	same(t, "a centre far below", fine[[]api.Cell](t)(mill.Occupied(b, op("ball", 8, 0), at(0, 0, -1000))), block(b))
	same(t, "a centre far above", fine[[]api.Cell](t)(mill.Occupied(b, op("ball", 8, 0), at(0, 0, 1000))), nil)
	same(t, "a centre far away", fine[[]api.Cell](t)(mill.Occupied(b, op("ball", 8, 0), at(0, 10, -1000))), nil)
}

func TestOccupied(t *testing.T) {
	r := dice()
	some := 0
	for range 3000 {
		b, o := randomBox(r, 6, 6, 6), randomOp(r, []int{1, 3, 8}[r.IntN(3)])
		c := randomCell(r, boxOf(plus(b.Low, at(-5, -5, -5)), plus(b.High, at(5, 5, 5))))
		got := fine[[]api.Cell](t)(mill.Occupied(b, o, c))
		same(t, "Occupied", got, occupied(block(b), o, c))
		if len(got) > 0 && len(got) < len(block(b)) {
			some++
		}
	}
	if some < 400 {
		t.Errorf("only %d tools in a part of the blank", some)
	}
}

func TestCentresAndReach(t *testing.T) {
	r := dice()
	some, nothing := 0, 0
	for i := range 3000 {
		s, o := randomSetup(r), randomOp(r, 3)
		if i%60 == 0 {
			o.Tool.Radius = 8
		}
		stands := fine[[]api.Cell](t)(mill.Centres(s, o))
		same(t, "Centres", stands, centres(s, o))
		got := fine[[]api.Cell](t)(mill.Reach(s, o))
		same(t, "Reach", got, reach(s, o))
		if len(got) == 0 {
			nothing++
		} else if len(got) < len(block(s.Blank))-len(s.Part) {
			some++
		}
	}
	if some < 400 || nothing < 40 {
		t.Errorf("only %d setups of which something is left, and %d of which all is", some, nothing)
	}
}

// TestToolsAtTheEnds: a blank as long as the grid, one at its corner, and one as large as a blank may be.
func TestToolsAtTheEnds(t *testing.T) {
	corner := mill.Setup{Blank: boxOf(at(1000, -1000, 999), at(1000, -1000, 1000)), Part: []api.Cell{at(1000, -1000, 999)}}
	same(t, "centres beside the grid", fine[[]api.Cell](t)(mill.Centres(corner, op("end", 1, 0))), centres(corner, op("end", 1, 0)))
	if c := fine[[]api.Cell](t)(mill.Centres(corner, op("ball", 8, 0))); !slices.Contains(c, at(1008, -1008, 1000)) || slices.Contains(c, at(1000, -1000, 1000)) {
		t.Error("a ball at the corner of the grid")
	}
	for dir := range 5 {
		same(t, "Reach at the corner", fine[[]api.Cell](t)(mill.Reach(corner, op("ball", 2, dir))), reach(corner, op("ball", 2, dir)))
	}
	// 197 cells are in a circle of the radius 8.
	long := mill.Setup{Blank: boxOf(at(-1000, 0, 0), at(1000, 1, 0)), Part: []api.Cell{at(0, 0, 0), at(0, 1, 0)}}
	same(t, "centres of a long blank", len(fine[[]api.Cell](t)(mill.Centres(long, op("end", 8, 4)))), 2*2017*17-2*197)
	same(t, "centres along a long blank", len(fine[[]api.Cell](t)(mill.Centres(long, op("end", 0, 1)))), 2000)
	same(t, "Reach along a long blank", len(fine[[]api.Cell](t)(mill.Reach(long, op("ball", 0, 2)))), 2000)
	full := mill.Setup{Blank: boxOf(at(0, 0, 0), at(15, 15, 15))}
	same(t, "no part", fine[[]api.Cell](t)(mill.Reach(full, op("ball", 8, 3))), block(full.Blank))
	full.Part = block(full.Blank)
	same(t, "nothing but the part", fine[[]api.Cell](t)(mill.Reach(full, op("ball", 8, 3))), nil)
	same(t, "centres beside the part only", fine[[]api.Cell](t)(mill.Centres(full, op("end", 0, 3))), nil)
}

func TestCheckTool(t *testing.T) {
	for _, kind := range []string{"ball", "end"} {
		for radius := 0; radius <= 8; radius++ {
			same(t, "a tool", mill.CheckTool(mill.Tool{Kind: kind, Radius: radius}), api.OK)
		}
	}
	for _, f := range faultyTools() {
		same(t, f.what, mill.CheckTool(f.arg), f.e)
	}
}

func TestCheckSetup(t *testing.T) {
	same(t, "a setup", mill.CheckSetup(cross()), api.OK)
	same(t, "no part", mill.CheckSetup(mill.Setup{}), api.OK)
	same(t, "nothing but the part", mill.CheckSetup(mill.Setup{Blank: blankB(), Part: block(blankB())}), api.OK)
	largest := boxOf(at(985, 985, -1000), at(1000, 1000, -985))
	same(t, "the largest setup", mill.CheckSetup(mill.Setup{Blank: largest, Part: block(largest)}), api.OK)
	for _, f := range faultySetups() {
		same(t, f.what, mill.CheckSetup(f.arg), f.e)
	}
}

func TestErrorsOfTools(t *testing.T) {
	for _, f := range faultyBlanks() {
		got, e := mill.Occupied(f.arg, op("saw", 0, 0), at(0, 0, 1001))
		refused(t, "Occupied: "+f.what, got, e, f.e)
	}
	for _, f := range faultyOps() {
		got, e := mill.Occupied(blankB(), f.arg, at(0, 0, 1001))
		refused(t, "Occupied: "+f.what, got, e, f.e)
		got, e = mill.Centres(cross(), f.arg)
		refused(t, "Centres: "+f.what, got, e, f.e)
		got, e = mill.Reach(cross(), f.arg)
		refused(t, "Reach: "+f.what, got, e, f.e)
	}
	for _, c := range badCells() {
		got, e := mill.Occupied(blankB(), op("end", 0, 0), c)
		refused(t, "Occupied at no cell", got, e, api.ErrRange)
	}
	for _, f := range faultySetups() {
		got, e := mill.Centres(f.arg, op("saw", 0, 0))
		refused(t, "Centres: "+f.what, got, e, f.e)
		got, e = mill.Reach(f.arg, op("saw", 0, 0))
		refused(t, "Reach: "+f.what, got, e, f.e)
	}
}

func TestMemoryOfTools(t *testing.T) {
	s := cross()
	part := slices.Clone(s.Part)
	for _, ask := range []func() ([]api.Cell, api.Errno){
		func() ([]api.Cell, api.Errno) { return mill.Occupied(s.Blank, op("ball", 1, 0), at(1, 1, 1)) },
		func() ([]api.Cell, api.Errno) { return mill.Centres(s, op("ball", 1, 0)) },
		func() ([]api.Cell, api.Errno) { return mill.Reach(s, op("ball", 1, 0)) },
	} {
		one, other := fine[[]api.Cell](t)(ask()), fine[[]api.Cell](t)(ask())
		same(t, "the same again", one, other)
		for i := range one {
			one[i] = at(9, 9, 9)
		}
		same(t, "the other result", slices.Contains(other, at(9, 9, 9)), false)
		same(t, "the part", s.Part, part)
	}
}
