package restore_test

import (
	"slices"
	"testing"

	"cusp/api"
	"cusp/restore"
)

// line returns n cells along X, from 0 on.
func line(n int) []api.Cell {
	var l []api.Cell
	for i := range n {
		l = append(l, at(i, 0, 0))
	}
	return l
}

func TestSetupOfTheChapter(t *testing.T) {
	teeth := [][]api.Cell{{at(0, 0, 0)}, {at(0, 0, 0)}}
	same(t, "two teeth", fine[[][]api.Cell](t)(restore.Setup(line(6), teeth, []int{2, 3})), [][]api.Cell{{at(1, 0, 0)}, {at(3, 0, 0)}})
	l, e := restore.Setup(line(6), teeth, []int{4, 3})
	refused(t, "too wide", l, e, api.ErrNone)
}

// faultyArches returns arches with each kind of error.
func faultyArches() []faulty[[]api.Cell] {
	l := []faulty[[]api.Cell]{
		{"too many cells", many(257, at(0, 0, 0)), api.ErrMany},
		{"too many cells that are none", many(257, at(0, 0, 1001)), api.ErrMany},
	}
	for _, c := range badCells() {
		l = append(l, faulty[[]api.Cell]{"a cell that is none", append(line(9), c), api.ErrRange})
	}
	return l
}

// faultyTeeth returns teeth with each kind of error.
func faultyTeeth() []faulty[[][]api.Cell] {
	tooth := []api.Cell{at(0, 0, 0)}
	l := []faulty[[][]api.Cell]{
		{"too many teeth", many(33, tooth), api.ErrMany},
		{"too many teeth, all of them without cells", make([][]api.Cell, 33), api.ErrMany},
		{"a tooth without cells", [][]api.Cell{tooth, {}}, api.ErrEmpty},
		{"a tooth without cells before one with too many", [][]api.Cell{tooth, nil, row(4097)}, api.ErrEmpty},
		{"too many cells before a tooth without cells", [][]api.Cell{tooth, row(4097), nil}, api.ErrMany},
	}
	for _, s := range faultySets() {
		l = append(l, faulty[[][]api.Cell]{s.what, [][]api.Cell{tooth, s.arg}, s.e})
	}
	return l
}

func TestErrorsOfSetups(t *testing.T) {
	for _, f := range faultyArches() {
		l, e := restore.Setup(f.arg, make([][]api.Cell, 33), []int{0})
		refused(t, "the arch: "+f.what, l, e, f.e)
		l, e = restore.Setup(f.arg, nil, nil)
		refused(t, "the arch without teeth: "+f.what, l, e, f.e)
	}
	for _, f := range faultyTeeth() {
		l, e := restore.Setup(line(9), f.arg, []int{0})
		refused(t, "teeth: "+f.what, l, e, f.e)
	}
	tooth := []api.Cell{at(0, 0, 0), at(0, 0, 1)}
	for _, c := range []struct {
		what   string
		arch   []api.Cell
		teeth  [][]api.Cell
		widths []int
		e      api.Errno
	}{
		{"a width less", line(9), many(2, tooth), []int{0}, api.ErrShape},
		{"a width more", line(9), many(2, tooth), []int{1, 1, 0}, api.ErrShape},
		{"no widths", line(9), many(2, tooth), nil, api.ErrShape},
		{"no teeth", line(9), nil, []int{1}, api.ErrShape},
		{"the width 0", line(9), many(2, tooth), []int{9, 0}, api.ErrRange},
		{"a width below 0", line(9), many(2, tooth), []int{-1, 1}, api.ErrRange},
		{"a width of 257", line(256), many(2, tooth), []int{200, 257}, api.ErrRange},
		{"the least width", line(9), many(2, tooth), []int{1, least}, api.ErrRange},
		{"the greatest width", line(9), many(2, tooth), []int{greatest, 1}, api.ErrRange},
		{"widths as long as the arch", line(9), many(2, tooth), []int{5, 4}, api.OK},
		{"widths longer than the arch", line(9), many(2, tooth), []int{5, 5}, api.ErrNone},
		{"no arch", nil, many(1, tooth), []int{1}, api.ErrNone},
		{"no arch, no teeth", nil, nil, nil, api.OK},
		{"no teeth on an arch", line(9), nil, nil, api.OK},
		{"all widths are greatest", line(256), many(32, tooth), many(32, 256), api.ErrNone},
		{"one tooth as wide as the longest arch", line(256), many(1, tooth), []int{256}, api.OK},
		{"as many teeth as there may be", line(256), many(32, tooth), many(32, 8), api.OK},
		{"a tooth goes out at the top", []api.Cell{at(0, 0, 1000)}, many(1, tooth), []int{1}, api.ErrRange},
		{"a tooth goes up to the top", []api.Cell{at(0, 0, 999)}, many(1, tooth), []int{1}, api.OK},
		{"a tooth goes out on the right", []api.Cell{at(1000, 0, 0)}, [][]api.Cell{{at(-1000, 0, 0), at(-999, 0, 0)}}, []int{1}, api.ErrRange},
		{"a tooth goes out at the front", []api.Cell{at(0, -1000, 0)}, [][]api.Cell{{at(0, 0, 0), at(1, -1, 0)}}, []int{1}, api.ErrRange},
		{"a tooth goes from one border to the other one", []api.Cell{at(1000, -1000, 1000)}, [][]api.Cell{{at(-1000, 1000, -1000)}}, []int{1}, api.OK},
		{"a hit", many(2, at(0, 0, 0)), many(2, tooth), []int{1, 1}, api.ErrHit},
		{"a hit with the first of three", []api.Cell{at(0, 0, 0), at(5, 0, 0), at(0, 0, 1)}, many(3, tooth), many(3, 1), api.ErrHit},
		{"no hit with where a tooth came from", []api.Cell{at(0, 0, 5), at(0, 0, 0)}, many(2, tooth), many(2, 1), api.OK},
		{"a hit before a tooth that goes out", []api.Cell{at(0, 0, 0), at(0, 0, 0), at(0, 0, 1000)}, many(3, tooth), many(3, 1), api.ErrHit},
		{"a tooth that goes out before a hit", []api.Cell{at(0, 0, 0), at(0, 0, 1000), at(0, 0, 0)}, many(3, tooth), many(3, 1), api.ErrRange},
		{"a tooth that goes out and hits", []api.Cell{at(0, 0, 999), at(0, 0, 1000)}, many(2, tooth), many(2, 1), api.ErrRange},
		{"a tooth that touches", []api.Cell{at(0, 0, 0), at(0, 0, 2)}, many(2, tooth), many(2, 1), api.OK},
	} {
		l, e := restore.Setup(c.arch, c.teeth, c.widths)
		if c.e != api.OK {
			refused(t, "Setup: "+c.what, l, e, c.e)
			continue
		}
		same(t, "Setup: "+c.what, e, api.OK)
		same(t, "Setup: "+c.what, len(l), len(c.teeth))
	}
}

func TestPlacesOfTeeth(t *testing.T) {
	for _, c := range []struct {
		widths []int
		places []int
	}{
		{[]int{1}, []int{0}},
		{[]int{2}, []int{1}},
		{[]int{3}, []int{1}},
		{[]int{256}, []int{128}},
		{[]int{1, 1, 1}, []int{0, 1, 2}},
		{[]int{3, 3, 4, 1}, []int{1, 4, 8, 10}},
		{[]int{255, 1}, []int{127, 255}},
	} {
		var wanted [][]api.Cell
		for _, n := range c.places {
			wanted = append(wanted, []api.Cell{at(n, 0, 0)})
		}
		same(t, "Setup", fine[[][]api.Cell](t)(restore.Setup(line(256), many(len(c.widths), []api.Cell{at(7, -7, 7)}), c.widths)), wanted)
	}
}

func TestSetup(t *testing.T) {
	r := dice()
	seen := map[api.Errno]int{}
	for range 3000 {
		arch, edge := []api.Cell{}, between(r, 0, 1)*985
		for range between(r, 5, 30) {
			arch = append(arch, plus(randomCell(r, at(-3, -3, -14), at(3, 3, 14)), at(edge, -edge, edge)))
		}
		var teeth [][]api.Cell
		var widths []int
		wanted, e, before := [][]api.Cell{}, api.OK, 0
		for range between(r, 0, 4) {
			tooth, width := randomSet(r, 12, at(-3, -3, -3), at(1, 1, 1)), between(r, 1, 6)
			teeth, widths = append(teeth, tooth), append(widths, width)
			if before += width; e != api.OK || before > len(arch) {
				continue
			}
			there, set := arch[before-(width+1)/2], []api.Cell{}
			for _, c := range tooth {
				set = append(set, at(c.X-tooth[0].X+there.X, c.Y-tooth[0].Y+there.Y, c.Z-tooth[0].Z+there.Z))
			}
			isNone := func(c api.Cell) bool { return max(c.X, -c.X, c.Y, -c.Y, c.Z, -c.Z) > 1000 }
			switch {
			case slices.ContainsFunc(set, isNone):
				e = api.ErrRange
			case len(common(slices.Concat(wanted...), set)) > 0:
				e = api.ErrHit
			}
			wanted = append(wanted, set)
		}
		if before > len(arch) {
			e = api.ErrNone
		}
		seen[e]++
		got, errorOfSetup := restore.Setup(arch, teeth, widths)
		if e != api.OK {
			refused(t, "Setup", got, errorOfSetup, e)
			continue
		}
		same(t, "Setup", errorOfSetup, api.OK)
		same(t, "Setup", got, wanted)
	}
	for _, e := range []api.Errno{api.OK, api.ErrNone, api.ErrRange, api.ErrHit} {
		if seen[e] < 30 {
			t.Errorf("error %d was seen only %d times", e, seen[e])
		}
	}
}

// TestMemoryOfSetups: teeth that are set share no memory with others, also where they stay.
func TestMemoryOfSetups(t *testing.T) {
	tooth := block(at(0, 0, 0), at(0, 0, 3))
	teeth := [][]api.Cell{tooth, tooth}
	l := fine[[][]api.Cell](t)(restore.Setup(line(2), teeth, []int{1, 1}))
	same(t, "a tooth that stays", l[0], tooth)
	for i := range l[0] {
		l[0][i] = at(9, 9, 9)
	}
	_ = append(l[0], at(8, 8, 8))
	same(t, "the tooth", tooth, block(at(0, 0, 0), at(0, 0, 3)))
	same(t, "the other tooth", l[1], block(at(1, 0, 0), at(1, 0, 3)))
	same(t, "the teeth", teeth, [][]api.Cell{tooth, tooth})
}
