package measure_test

import (
	"fmt"
	"strings"
	"testing"

	"cusp/api"
	"cusp/grid"
	"cusp/measure"
)

func TestCheckArch(t *testing.T) {
	same(t, "A", measure.CheckArch(chapter()), api.OK)
	same(t, "no teeth", measure.CheckArch(measure.Arch{}), api.OK)
	for _, f := range faultyArches() {
		same(t, f.what, measure.CheckArch(f.a), f.e)
	}
	for _, row := range []struct {
		what string
		e    api.Errno
		a    measure.Arch
	}{
		{"32 teeth", api.OK, manyTeeth(32)},
		{"33 teeth that are none", api.ErrMany, arch(make([]measure.Tooth, 33)...)},
		{"32 teeth that are none", api.ErrName, arch(make([]measure.Tooth, 32)...)},
		{"landmarks at the border", api.OK, arch(tooth("a", at(-1000, 1000, -1000), at(1000, -1000, 1000), at(-1000, -1000, 1000)))},
		{"a Left that is right of the Right", api.OK, arch(tooth("a", at(5, 0, 0), at(-5, 0, 0), at(0, 0, -5)))},
		{"two teeth at one place", api.OK, arch(tooth("a", at(1, 2, 3), at(1, 2, 3), at(1, 2, 3)), tooth("b", at(1, 2, 3), at(1, 2, 3), at(1, 2, 3)))},
		{"names that differ in a letter's size", api.OK, arch(tooth("a", at(0, 0, 0), at(0, 0, 0), at(0, 0, 0)), tooth("A", at(0, 0, 0), at(0, 0, 0), at(0, 0, 0)))},
	} {
		same(t, row.what, measure.CheckArch(row.a), row.e)
	}
	for name, e := range map[string]api.Errno{
		"x": api.OK, "Z_9": api.OK, strings.Repeat("n", 24): api.OK,
		"": api.ErrName, "1": api.ErrName, "_a": api.ErrName, "a b": api.ErrName, "a-b": api.ErrName, "ä": api.ErrName, "a\n": api.ErrName, strings.Repeat("n", 25): api.ErrName,
	} {
		a := chapter()
		a.Teeth[1].Name = name
		same(t, "the name "+name, measure.CheckArch(a), e)
	}
}

// TestFirstErrorOfArch mends the errors of an arch one by one, in the order in which they are found.
func TestFirstErrorOfArch(t *testing.T) {
	bad := at(0, 1001, 0)
	a := arch(make([]measure.Tooth, 33)...)
	second := func() *measure.Tooth { return &a.Teeth[1] }
	steps := []struct {
		e    api.Errno
		mend func()
	}{
		{api.ErrMany, func() { a = chapter(); a.Teeth[1] = tooth("", bad, bad, bad); a.Teeth[2].Name = "-" }},
		{api.ErrName, func() { second().Name = "p" }},
		{api.ErrTwice, func() { second().Name = "q" }},
		{api.ErrRange, func() { second().Left = at(0, 0, 0) }},
		{api.ErrRange, func() { second().Right = at(0, 0, 0) }},
		{api.ErrRange, func() { second().Tip = at(0, 0, 0) }},
		{api.ErrName, func() { a.Teeth[2].Name = "q" }},
		{api.ErrTwice, func() { a.Teeth[2].Name = "r" }},
	}
	for i, step := range steps {
		same(t, fmt.Sprintf("step %d", i), measure.CheckArch(a), step.e)
		step.mend()
	}
	same(t, "all mended", measure.CheckArch(a), api.OK)
}

// TestFaultyArches gives arches with an error, and other faulty arguments behind them, to all functions that take an arch.
func TestFaultyArches(t *testing.T) {
	other := arch(make([]measure.Tooth, 33)...)
	good := chapter()
	for _, f := range faultyArches() {
		width, e := measure.Width(f.a, -1)
		refused(t, "Width, "+f.what, width, e, f.e)
		span, e := measure.Need(f.a, 1, 0)
		refused(t, "Need, "+f.what, span, e, f.e)
		span, e = measure.Crowding(f.a, -1, 0, make([]api.Cell, 257))
		refused(t, "Crowding, "+f.what, span, e, f.e)
		span, e = measure.Irregular(f.a, 99, 0)
		refused(t, "Irregular, "+f.what, span, e, f.e)
		for _, pair := range [][2]measure.Arch{{f.a, other}, {good, f.a}} {
			ratio, e := measure.Ratio(pair[0], pair[1], -1, 99)
			refused(t, "Ratio, "+f.what, ratio, e, f.e)
			bite, e := measure.Bite(pair[0], pair[1], -1, 99)
			refused(t, "Bite, "+f.what, bite, e, f.e)
			changes, e := measure.Changes(pair[0], pair[1])
			refused(t, "Changes, "+f.what, changes, e, f.e)
		}
		middle, e := measure.Midline(f.a)
		refused(t, "Midline, "+f.what, middle, e, f.e)
		skew, e := measure.Skew(f.a, greatest)
		refused(t, "Skew, "+f.what, skew, e, f.e)
		plane, e := measure.Plane(f.a)
		refused(t, "Plane, "+f.what, plane, e, f.e)
		depth, e := measure.Depth(f.a)
		refused(t, "Depth, "+f.what, depth, e, f.e)
		a, e := measure.Mirrored(f.a, least)
		refused(t, "Mirrored, "+f.what, a, e, f.e)
		a, e = measure.Shifted(f.a, at(least, 0, 0))
		refused(t, "Shifted, "+f.what, a, e, f.e)
		a, e = measure.Moved(f.a, make([]measure.Change, 33))
		refused(t, "Moved, "+f.what, a, e, f.e)
		text, e := measure.Print(f.a)
		refused(t, "Print, "+f.what, text, e, f.e)
	}
}

func TestMarks(t *testing.T) {
	for _, row := range []struct {
		what  string
		cells []api.Cell
		want  measure.Tooth
	}{
		{"the chapter's cells", []api.Cell{at(0, 0, 0), at(0, 0, 1), at(1, 0, 0)}, tooth("t", at(0, 0, 0), at(1, 0, 0), at(0, 0, 1))},
		{"one cell", []api.Cell{at(-1000, 5, 1000)}, tooth("t", at(-1000, 5, 1000), at(-1000, 5, 1000), at(-1000, 5, 1000))},
		{"several tips", []api.Cell{at(0, 0, 0), at(0, 7, 2), at(0, 8, 2), at(3, 0, 2), at(3, 1, 1)}, tooth("t", at(0, 0, 0), at(3, 1, 1), at(0, 7, 2))},
		{"the first one as the tip", []api.Cell{at(0, 0, -7), at(0, 1, -8), at(0, 2, -7)}, tooth("t", at(0, 0, -7), at(0, 2, -7), at(0, 0, -7))},
		{"the last one as the tip", []api.Cell{at(2, 0, 0), at(2, 0, 1)}, tooth("t", at(2, 0, 0), at(2, 0, 1), at(2, 0, 1))},
	} {
		same(t, "Marks of "+row.what, fine[measure.Tooth](t)(measure.Marks("t", row.cells)), row.want)
	}
	r := dice()
	for range 200 {
		l := make([]api.Cell, 1+r.IntN(20))
		for i := range l {
			l[i] = randomCell(r, 1+r.IntN(5))
		}
		cells := fine[[]api.Cell](t)(grid.Sorted(l))
		got := fine[measure.Tooth](t)(measure.Marks("t_1", cells))
		top := cells[0]
		for i := range cells {
			if c := cells[len(cells)-1-i]; c.Z >= top.Z {
				top = c
			}
		}
		same(t, "Marks", got, tooth("t_1", cells[0], cells[len(cells)-1], top))
		same(t, "the arch of a tooth", measure.CheckArch(arch(got)), api.OK)
	}
	most := fine[[]api.Cell](t)(grid.Block(grid.Box{Low: at(-8, -8, -8), High: at(7, 7, 7)}))
	same(t, "Marks of the most cells", fine[measure.Tooth](t)(measure.Marks("t", most)), tooth("t", at(-8, -8, -8), at(7, 7, 7), at(-8, -8, 7)))
}

func TestFaultyMarks(t *testing.T) {
	for _, row := range []struct {
		name  string
		cells []api.Cell
		e     api.Errno
	}{
		{"", nil, api.ErrName}, {"1", nil, api.ErrName}, {strings.Repeat("t", 25), []api.Cell{at(0, 0, 0)}, api.ErrName},
		{"-", make([]api.Cell, 4097), api.ErrName}, {"-", []api.Cell{at(0, 0, 1001)}, api.ErrName},
		{"t", nil, api.ErrEmpty}, {"t", []api.Cell{}, api.ErrEmpty},
		{"t", make([]api.Cell, 4097), api.ErrMany}, {"t", []api.Cell{at(0, 0, 0), at(1001, 0, 0)}, api.ErrRange}, {"t", []api.Cell{at(0, least, 0)}, api.ErrRange},
		{"t", []api.Cell{at(1, 0, 0), at(0, 0, 0)}, api.ErrOrder}, {"t", []api.Cell{at(1, 0, 0), at(1, 0, 0)}, api.ErrOrder},
	} {
		got, e := measure.Marks(row.name, row.cells)
		refused(t, fmt.Sprintf("Marks of %q", row.name), got, e, row.e)
	}
}
