package cast_test

import (
	"fmt"
	"slices"
	"strings"
	"testing"

	"cusp/api"
	"cusp/cast"
	"cusp/grid"
)

func TestCheckCast(t *testing.T) {
	full := block(t, at(100, 0, 0), at(115, 15, 15))
	marks := func(n int) []cast.Mark {
		var l []cast.Mark
		for i := range n {
			l = append(l, cast.Mark{Name: fmt.Sprintf("m%d", i), At: at(0, 0, i%2)})
		}
		return l
	}
	for _, row := range []struct {
		what   string
		e      api.Errno
		change func(c *cast.Cast)
	}{
		{"C", api.OK, func(c *cast.Cast) {}},
		{"an upper one", api.OK, func(c *cast.Cast) { c.Upper = true }},
		{"a name alone", api.OK, func(c *cast.Cast) { *c = cast.Cast{Name: "c"} }},
		{"no name", api.ErrName, func(c *cast.Cast) { c.Name = "" }},
		{"a name that begins with a digit", api.ErrName, func(c *cast.Cast) { c.Name = "1c" }},
		{"a name of 24 bytes", api.OK, func(c *cast.Cast) { c.Name = strings.Repeat("c", 24) }},
		{"a name of 25 bytes", api.ErrName, func(c *cast.Cast) { c.Name = strings.Repeat("c", 25) }},
		{"32 teeth", api.OK, func(c *cast.Cast) { c.Teeth = manyTeeth(32) }},
		{"33 teeth", api.ErrMany, func(c *cast.Cast) { c.Teeth = manyTeeth(33) }},
		{"33 teeth that are none", api.ErrMany, func(c *cast.Cast) { c.Teeth = make([]cast.Tooth, 33) }},
		{"a tooth without a name", api.ErrName, func(c *cast.Cast) { c.Teeth[1].Name = "" }},
		{"a tooth with a name that is none", api.ErrName, func(c *cast.Cast) { c.Teeth[0].Name = "a-b" }},
		{"the name of the first tooth", api.ErrTwice, func(c *cast.Cast) { c.Teeth[1].Name = "a" }},
		{"the name of the cast", api.OK, func(c *cast.Cast) { c.Teeth[1].Name = "c" }},
		{"a tooth without cells", api.ErrEmpty, func(c *cast.Cast) { c.Teeth[1].Cells = nil }},
		{"a tooth with 4097 cells", api.ErrMany, func(c *cast.Cast) { c.Teeth[1].Cells = make([]api.Cell, 4097) }},
		{"a tooth with a cell that is none", api.ErrRange, func(c *cast.Cast) { c.Teeth[1].Cells[0].Y = 1001 }},
		{"a tooth without order", api.ErrOrder, func(c *cast.Cast) { c.Teeth[0].Cells[1].Z = -1 }},
		{"a tooth with a cell twice", api.ErrOrder, func(c *cast.Cast) { c.Teeth[0].Cells[1].Z = 0 }},
		{"the longest axis", api.OK, func(c *cast.Cast) { c.Teeth[0].Axis = at(1000, -1000, 1000) }},
		{"an axis along X", api.OK, func(c *cast.Cast) { c.Teeth[0].Axis = at(-1, 0, 0) }},
		{"an axis with a large X", api.ErrRange, func(c *cast.Cast) { c.Teeth[0].Axis = at(1001, 0, 0) }},
		{"an axis with a large Y", api.ErrRange, func(c *cast.Cast) { c.Teeth[0].Axis = at(0, -1001, 0) }},
		{"an axis with a large Z", api.ErrRange, func(c *cast.Cast) { c.Teeth[1].Axis = at(0, 0, least) }},
		{"no axis", api.ErrZero, func(c *cast.Cast) { c.Teeth[1].Axis = at(0, 0, 0) }},
		{"16 landmarks", api.OK, func(c *cast.Cast) { c.Teeth[0].Marks = marks(16) }},
		{"17 landmarks", api.ErrMany, func(c *cast.Cast) { c.Teeth[0].Marks = marks(17) }},
		{"17 landmarks that are none", api.ErrMany, func(c *cast.Cast) { c.Teeth[0].Marks = make([]cast.Mark, 17) }},
		{"a landmark without a name", api.ErrName, func(c *cast.Cast) { c.Teeth[0].Marks[0].Name = "" }},
		{"a landmark twice", api.ErrTwice, func(c *cast.Cast) {
			c.Teeth[0].Marks = []cast.Mark{{Name: "m", At: at(0, 0, 0)}, {Name: "n", At: at(0, 0, 0)}, {Name: "m", At: at(0, 0, 1)}}
		}},
		{"a landmark of each tooth", api.OK, func(c *cast.Cast) { c.Teeth[1].Marks = []cast.Mark{{Name: "tip", At: at(1, 0, 0)}} }},
		{"a landmark with the name of its tooth", api.OK, func(c *cast.Cast) { c.Teeth[0].Marks[0].Name = "a" }},
		{"a landmark of another tooth", api.ErrUnknown, func(c *cast.Cast) { c.Teeth[0].Marks[0].At = at(1, 0, 0) }},
		{"a landmark of the gum", api.ErrUnknown, func(c *cast.Cast) { c.Teeth[0].Marks[0].At = at(0, 0, -1) }},
		{"a landmark that is no cell", api.ErrUnknown, func(c *cast.Cast) { c.Teeth[0].Marks[0].At = at(greatest, 0, 0) }},
		{"a gum with 4097 cells", api.ErrMany, func(c *cast.Cast) { c.Gum = make([]api.Cell, 4097) }},
		{"a gum with a cell that is none", api.ErrRange, func(c *cast.Cast) { c.Gum[1].X = 1001 }},
		{"a gum without order", api.ErrOrder, func(c *cast.Cast) { c.Gum[0].X = 2 }},
		{"no gum", api.OK, func(c *cast.Cast) { c.Gum = nil }},
		{"a base with 4097 cells", api.ErrMany, func(c *cast.Cast) { c.Base = make([]api.Cell, 4097) }},
		{"a base with a cell that is none", api.ErrRange, func(c *cast.Cast) { c.Base[0].Z = -1001 }},
		{"a base without order", api.ErrOrder, func(c *cast.Cast) { c.Base = []api.Cell{at(5, 0, 0), at(4, 9, 9)} }},
		{"no base", api.OK, func(c *cast.Cast) { c.Base = nil }},
		{"4096 cells", api.OK, func(c *cast.Cast) { c.Base = full[:4091] }},
		{"4097 cells", api.ErrMany, func(c *cast.Cast) { c.Base = full[:4092] }},
		{"4096 cells of a base", api.OK, func(c *cast.Cast) { *c = cast.Cast{Name: "c", Base: full} }},
		{"4097 cells, and a hit", api.ErrMany, func(c *cast.Cast) { c.Base = full[:4091]; c.Gum = full[:3] }},
		{"4096 cells, and a hit", api.ErrHit, func(c *cast.Cast) { c.Base = full[:4091]; c.Gum = full[:2] }},
		{"two teeth", api.ErrHit, func(c *cast.Cast) { c.Teeth[1].Cells[0].X = 0 }},
		{"a tooth and the gum", api.ErrHit, func(c *cast.Cast) { c.Gum[1].Z = 0 }},
		{"a tooth and the base", api.ErrHit, func(c *cast.Cast) { c.Base[0].Z = 1 }},
		{"gum and base", api.ErrHit, func(c *cast.Cast) { c.Base[0].Z = -1 }},
	} {
		c := chapter()
		row.change(&c)
		same(t, row.what, cast.CheckCast(c), row.e)
	}
}

// TestFirstErrorOfCast mends the errors of a cast one by one, in the order in which they are found.
func TestFirstErrorOfCast(t *testing.T) {
	c := chapter()
	good := chapter()
	many := slices.Repeat([]api.Cell{at(least, 0, 0)}, 4097)
	far := []api.Cell{at(7, 0, 0), at(7, 0, 1001)}
	c.Name = "-"
	c.Teeth = make([]cast.Tooth, 33)
	tooth := func() *cast.Tooth { return &c.Teeth[1] }
	c.Gum, c.Base = many, many
	steps := []struct {
		e    api.Errno
		mend func()
	}{
		{api.ErrName, func() { c.Name = "c" }},
		{api.ErrMany, func() {
			c.Teeth = []cast.Tooth{good.Teeth[0], {Axis: at(0, 1001, 0), Marks: make([]cast.Mark, 17)}, {}}
		}},
		{api.ErrName, func() { tooth().Name = "a" }},
		{api.ErrTwice, func() { tooth().Name = "b" }},
		{api.ErrEmpty, func() { tooth().Cells = many }},
		{api.ErrMany, func() { tooth().Cells = far }},
		{api.ErrRange, func() { tooth().Cells = []api.Cell{at(0, 0, 1), at(0, 0, 0)} }},
		{api.ErrOrder, func() { tooth().Cells = []api.Cell{at(0, 0, 1)} }},
		{api.ErrRange, func() { tooth().Axis = at(0, 0, 0) }},
		{api.ErrZero, func() { tooth().Axis = at(0, 0, 1) }},
		{api.ErrMany, func() { tooth().Marks = []cast.Mark{{Name: "m", At: at(0, 0, 1)}, {}, {Name: "0"}} }},
		{api.ErrName, func() { tooth().Marks[1].Name = "m" }},
		{api.ErrTwice, func() { tooth().Marks[1].Name = "n" }},
		{api.ErrUnknown, func() { tooth().Marks[1].At = at(0, 0, 1) }},
		{api.ErrName, func() { tooth().Marks = nil }},
		{api.ErrName, func() { c.Teeth = c.Teeth[:2] }},
		{api.ErrMany, func() { c.Gum = far }},
		{api.ErrRange, func() { c.Gum = []api.Cell{at(0, 0, 1), at(0, 0, 0)} }},
		{api.ErrOrder, func() { c.Gum = block(t, at(0, 0, 0), at(15, 15, 15)) }},
		{api.ErrMany, func() { c.Base = far }},
		{api.ErrRange, func() { c.Base = []api.Cell{at(0, 0, 1), at(0, 0, 0)} }},
		{api.ErrOrder, func() { c.Base = nil }},
		{api.ErrMany, func() { c.Gum = c.Gum[:1] }},
		{api.ErrHit, func() { c.Gum = nil; tooth().Cells[0].Z = 2 }},
	}
	for i, step := range steps {
		same(t, fmt.Sprintf("step %d", i), cast.CheckCast(c), step.e)
		step.mend()
	}
	same(t, "all mended", cast.CheckCast(c), api.OK)
}

// TestFaultyCasts gives casts with an error, and other faulty arguments behind them, to all functions that take a cast.
func TestFaultyCasts(t *testing.T) {
	for _, f := range faultyCasts() {
		same(t, f.what, cast.CheckCast(f.c), f.e)
		all, e := cast.All(f.c)
		refused(t, "All, "+f.what, all, e, f.e)
		tooth, e := cast.Find(f.c, "-")
		refused(t, "Find, "+f.what, tooth, e, f.e)
		kind, name, e := cast.At(f.c, at(greatest, 0, 0))
		refused(t, "At, "+f.what, kind, e, f.e)
		refused(t, "At, "+f.what, name, e, f.e)
		pairs, e := cast.Touching(f.c)
		refused(t, "Touching, "+f.what, pairs, e, f.e)
		c, e := cast.Shifted(f.c, at(0, 0, least))
		refused(t, "Shifted, "+f.what, c, e, f.e)
		c, e = cast.Turned(f.c, 24, at(0, greatest, 0))
		refused(t, "Turned, "+f.what, c, e, f.e)
		c, e = cast.Mirrored(f.c, 3, greatest)
		refused(t, "Mirrored, "+f.what, c, e, f.e)
		c, e = cast.Renamed(f.c, "x", "-")
		refused(t, "Renamed, "+f.what, c, e, f.e)
		text, e := cast.Print(f.c)
		refused(t, "Print, "+f.what, text, e, f.e)
	}
}

func TestAll(t *testing.T) {
	same(t, "All", fine[[]api.Cell](t)(cast.All(chapter())), chapterCells())
	same(t, "All of nothing", fine[[]api.Cell](t)(cast.All(cast.Cast{Name: "c"})), nil)
	full := block(t, at(0, 0, 0), at(15, 15, 15))
	c := cast.Cast{Name: "c", Teeth: []cast.Tooth{{Name: "t", Cells: full[4000:], Axis: at(0, 0, 1)}}, Gum: full[1:4000], Base: full[:1]}
	same(t, "All of the most cells", fine[[]api.Cell](t)(cast.All(c)), full)
}

func TestFind(t *testing.T) {
	c := chapter()
	for _, tooth := range c.Teeth {
		same(t, "Find", fine[cast.Tooth](t)(cast.Find(c, tooth.Name)), tooth)
	}
	for _, name := range []string{"", "c", "A", "tip", "-", "a\x00"} {
		got, e := cast.Find(c, name)
		refused(t, "Find "+name, got, e, api.ErrUnknown)
	}
	got := fine[cast.Tooth](t)(cast.Find(c, "a"))
	got.Cells[0], got.Marks[0].Name = at(9, 9, 9), "x"
	same(t, "the cast afterwards", c, chapter())
}

func TestAt(t *testing.T) {
	for _, row := range []struct {
		at   api.Cell
		kind int
		name string
	}{
		{at(0, 0, 0), 1, "a"}, {at(0, 0, 1), 1, "a"}, {at(1, 0, 0), 1, "b"},
		{at(0, 0, -1), 2, ""}, {at(1, 0, -1), 2, ""}, {at(0, 0, -2), 3, ""},
		{at(5, 5, 5), 0, ""}, {at(1, 0, 1), 0, ""}, {at(1000, -1000, 1000), 0, ""},
	} {
		kind, name, e := cast.At(chapter(), row.at)
		same(t, "At", e, api.OK)
		same(t, "what At says", kind, row.kind)
		same(t, "the name that At says", name, row.name)
	}
	for _, cell := range badCells() {
		kind, name, e := cast.At(chapter(), cell)
		refused(t, "At no cell", kind, e, api.ErrRange)
		refused(t, "At no cell", name, e, api.ErrRange)
	}
}

func TestTouching(t *testing.T) {
	teeth := func(sets ...[]api.Cell) cast.Cast {
		c := cast.Cast{Name: "c"}
		for i, l := range sets {
			c.Teeth = append(c.Teeth, cast.Tooth{Name: fmt.Sprintf("t%d", i), Cells: l, Axis: at(1, 0, 0)})
		}
		return c
	}
	same(t, "Touching", fine[[][2]int](t)(cast.Touching(chapter())), [][2]int{{0, 1}})
	same(t, "Touching without teeth", fine[[][2]int](t)(cast.Touching(cast.Cast{Name: "c", Gum: chapterCells()})), nil)
	// The others are at the six sides of the third one, and at an edge and a corner of it.
	c := teeth([]api.Cell{at(1, 0, 0)}, []api.Cell{at(0, 1, 0)}, []api.Cell{at(0, 0, 0)}, []api.Cell{at(0, 0, -1)}, []api.Cell{at(-1, 0, 0)}, []api.Cell{at(0, -1, 0)}, []api.Cell{at(0, 0, 1)}, []api.Cell{at(0, -1, -2)}, []api.Cell{at(-1, 1, 1)})
	same(t, "Touching", fine[[][2]int](t)(cast.Touching(c)), [][2]int{{0, 2}, {1, 2}, {2, 3}, {2, 4}, {2, 5}, {2, 6}})
	gum := teeth([]api.Cell{at(0, 0, 0)}, []api.Cell{at(2, 0, 0)})
	gum.Gum, gum.Base = []api.Cell{at(1, 0, 0)}, []api.Cell{at(0, 0, 1)}
	same(t, "Touching with gum between", fine[[][2]int](t)(cast.Touching(gum)), nil)
	border := teeth([]api.Cell{at(1000, 1000, 1000)}, []api.Cell{at(-1000, -1000, -1000)}, []api.Cell{at(1000, 1000, 999)})
	same(t, "Touching at the border", fine[[][2]int](t)(cast.Touching(border)), [][2]int{{0, 2}})
	var row [][2]int
	for i := range 31 {
		row = append(row, [2]int{i, i + 1})
	}
	same(t, "Touching in a row of the most teeth", fine[[][2]int](t)(cast.Touching(cast.Cast{Name: "c", Teeth: manyTeeth(32)})), row)
	r := dice()
	for range 100 {
		c := randomCast(r)
		var pairs [][2]int
		for i, a := range c.Teeth {
			for k := i + 1; k < len(c.Teeth); k++ {
				if fine[int](t)(grid.Apart(a.Cells, c.Teeth[k].Cells)) == 1 {
					pairs = append(pairs, [2]int{i, k})
				}
			}
		}
		same(t, "Touching", fine[[][2]int](t)(cast.Touching(c)), pairs)
	}
}
