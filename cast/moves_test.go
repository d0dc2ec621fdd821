package cast_test

import (
	"testing"

	"cusp/api"
	"cusp/cast"
	"cusp/grid"
)

// placed returns a cast with its cells and its axes as two functions say.
func placed(c cast.Cast, place, turn func(api.Cell) api.Cell) cast.Cast {
	each := func(l []api.Cell) []api.Cell {
		var out []api.Cell
		for _, cell := range l {
			out = append(out, place(cell))
		}
		return ascending(out)
	}
	out := cast.Cast{Name: c.Name, Upper: c.Upper, Gum: each(c.Gum), Base: each(c.Base)}
	for _, tooth := range c.Teeth {
		var marks []cast.Mark
		for _, m := range tooth.Marks {
			marks = append(marks, cast.Mark{Name: m.Name, At: place(m.At)})
		}
		out.Teeth = append(out.Teeth, cast.Tooth{Name: tooth.Name, Cells: each(tooth.Cells), Axis: turn(tooth.Axis), Marks: marks})
	}
	return out
}

// alone returns a cast with one cell, and nothing else.
func alone(c api.Cell) cast.Cast { return cast.Cast{Name: "alone", Gum: []api.Cell{c}} }

func TestShifted(t *testing.T) {
	got := fine[cast.Cast](t)(cast.Shifted(chapter(), at(10, -1, 2)))
	same(t, "Shifted", got, cast.Cast{Name: "c", Teeth: []cast.Tooth{
		{Name: "a", Cells: []api.Cell{at(10, -1, 2), at(10, -1, 3)}, Axis: at(0, 0, 1), Marks: []cast.Mark{{Name: "tip", At: at(10, -1, 3)}}},
		{Name: "b", Cells: []api.Cell{at(11, -1, 2)}, Axis: at(0, 0, 1)},
	}, Gum: []api.Cell{at(10, -1, 1), at(11, -1, 1)}, Base: []api.Cell{at(10, -1, 0)}})
	r := dice()
	for range 50 {
		c, by := randomCast(r), at(r.IntN(1997)-998, r.IntN(1997)-998, r.IntN(1997)-998)
		want := placed(c, func(p api.Cell) api.Cell { return at(p.X+by.X, p.Y+by.Y, p.Z+by.Z) }, func(v api.Cell) api.Cell { return v })
		same(t, "Shifted", fine[cast.Cast](t)(cast.Shifted(c, by)), want)
	}
	far := fine[cast.Cast](t)(cast.Shifted(alone(at(1000, -1000, 1000)), at(-2000, 2000, -2000)))
	same(t, "Shifted as far as possible", far.Gum, []api.Cell{at(-1000, 1000, -1000)})
	same(t, "nothing Shifted", fine[cast.Cast](t)(cast.Shifted(cast.Cast{Name: "c"}, at(2000, -2000, 2000))), cast.Cast{Name: "c"})
	for _, row := range []struct {
		c  cast.Cast
		by api.Cell
	}{
		{cast.Cast{Name: "c"}, at(2001, 0, 0)}, {cast.Cast{Name: "c"}, at(0, -2001, 0)}, {cast.Cast{Name: "c"}, at(0, 0, least)}, {cast.Cast{Name: "c"}, at(greatest, 0, 0)},
		{chapter(), at(1000, 0, 0)}, {chapter(), at(0, 1001, 0)}, {chapter(), at(0, 0, 1000)}, {chapter(), at(-1001, 0, 0)}, {chapter(), at(0, 0, -999)},
		{alone(at(0, 0, 0)), at(0, -1001, 0)},
	} {
		got, e := cast.Shifted(row.c, row.by)
		refused(t, "Shifted too far", got, e, api.ErrRange)
	}
	same(t, "Shifted to the border", fine[cast.Cast](t)(cast.Shifted(chapter(), at(999, 1000, 999))).Teeth[1].Cells, []api.Cell{at(1000, 1000, 999)})
}

func TestTurned(t *testing.T) {
	c := chapter()
	c.Upper = true
	c.Teeth[0].Axis = at(1, 2, 3)
	// The turn 10 takes x, y, z to y, z, x.
	same(t, "Turned", fine[cast.Cast](t)(cast.Turned(c, 10, at(1, 1, 1))), cast.Cast{Name: "c", Upper: true, Teeth: []cast.Tooth{
		{Name: "a", Cells: []api.Cell{at(0, 0, 0), at(0, 1, 0)}, Axis: at(2, 3, 1), Marks: []cast.Mark{{Name: "tip", At: at(0, 1, 0)}}},
		{Name: "b", Cells: []api.Cell{at(0, 0, 1)}, Axis: at(0, 1, 0)},
	}, Gum: []api.Cell{at(0, -1, 0), at(0, -1, 1)}, Base: []api.Cell{at(0, -2, 0)}})
	// The turn 4 takes x, y, z to -x, y, -z.
	same(t, "the order of cells", fine[cast.Cast](t)(cast.Turned(chapter(), 4, at(0, 0, 0))).Teeth[0].Cells, []api.Cell{at(0, 0, -1), at(0, 0, 0)})
	r := dice()
	for n := range 24 {
		for range 10 {
			c, about := randomCast(r), at(r.IntN(401)-200, r.IntN(401)-200, r.IntN(401)-200)
			turn := func(v, about api.Cell) api.Cell { return fine[[]api.Cell](t)(grid.Turn([]api.Cell{v}, n, about))[0] }
			want := placed(c, func(p api.Cell) api.Cell { return turn(p, about) }, func(v api.Cell) api.Cell { return turn(v, at(0, 0, 0)) })
			same(t, "Turned", fine[cast.Cast](t)(cast.Turned(c, n, about)), want)
		}
	}
	for _, row := range []struct {
		c     cast.Cast
		n     int
		about api.Cell
	}{
		{cast.Cast{Name: "c"}, -1, at(0, 0, 0)}, {cast.Cast{Name: "c"}, 24, at(0, 0, 0)}, {chapter(), greatest, at(0, 0, 0)}, {chapter(), least, at(0, 0, 0)},
		{alone(at(0, 0, 0)), 4, at(501, 0, 0)}, {alone(at(0, 0, 0)), 10, at(1000, -1000, 0)},
	} {
		got, e := cast.Turned(row.c, row.n, row.about)
		refused(t, "Turned", got, e, api.ErrRange)
	}
	for _, about := range badCells() {
		got, e := cast.Turned(cast.Cast{Name: "c"}, 0, about)
		refused(t, "Turned about no cell", got, e, api.ErrRange)
	}
	same(t, "Turned to the border", fine[cast.Cast](t)(cast.Turned(alone(at(0, 0, 0)), 4, at(500, 0, -500))).Gum, []api.Cell{at(1000, 0, -1000)})
}

func TestMirrored(t *testing.T) {
	c := chapter()
	c.Teeth[0].Axis = at(1, 2, 3)
	c.Teeth[0].Marks = []cast.Mark{{Name: "z", At: at(0, 0, 0)}, {Name: "a", At: at(0, 0, 1)}}
	same(t, "Mirrored", fine[cast.Cast](t)(cast.Mirrored(c, 2, 1)), cast.Cast{Name: "c", Teeth: []cast.Tooth{
		{Name: "a", Cells: []api.Cell{at(0, 0, 1), at(0, 0, 2)}, Axis: at(1, 2, -3), Marks: []cast.Mark{{Name: "z", At: at(0, 0, 2)}, {Name: "a", At: at(0, 0, 1)}}},
		{Name: "b", Cells: []api.Cell{at(1, 0, 2)}, Axis: at(0, 0, -1)},
	}, Gum: []api.Cell{at(0, 0, 3), at(1, 0, 3)}, Base: []api.Cell{at(0, 0, 4)}})
	x := fine[cast.Cast](t)(cast.Mirrored(c, 0, 0))
	same(t, "Mirrored at X", x.Teeth[1].Cells, []api.Cell{at(-1, 0, 0)})
	same(t, "Mirrored at X", x.Gum, []api.Cell{at(-1, 0, -1), at(0, 0, -1)})
	same(t, "the axis Mirrored at X", x.Teeth[0].Axis, at(-1, 2, 3))
	same(t, "the axis Mirrored at Y", fine[cast.Cast](t)(cast.Mirrored(c, 1, 7)).Teeth[0].Axis, at(1, -2, 3))
	r := dice()
	for axis := range 3 {
		for range 30 {
			c, number := randomCast(r), r.IntN(997)-498
			mirror := func(v api.Cell, number int) api.Cell { return moved(v, axis, 2*(number-parts(v)[axis])) }
			want := placed(c, func(p api.Cell) api.Cell { return mirror(p, number) }, func(v api.Cell) api.Cell { return mirror(v, 0) })
			same(t, "Mirrored", fine[cast.Cast](t)(cast.Mirrored(c, axis, number)), want)
		}
	}
	for _, axis := range []int{-1, 3, least, greatest} {
		got, e := cast.Mirrored(chapter(), axis, 1001)
		refused(t, "Mirrored at no axis", got, e, api.ErrKind)
	}
	for _, number := range []int{-1001, 1001, least, greatest} {
		got, e := cast.Mirrored(cast.Cast{Name: "c"}, 1, number)
		refused(t, "Mirrored too far", got, e, api.ErrRange)
	}
	got, e := cast.Mirrored(alone(at(0, 0, 0)), 2, 501)
	refused(t, "Mirrored beyond the border", got, e, api.ErrRange)
	same(t, "Mirrored to the border", fine[cast.Cast](t)(cast.Mirrored(alone(at(0, 0, 0)), 2, 500)).Gum, []api.Cell{at(0, 0, 1000)})
	same(t, "Mirrored at the border", fine[cast.Cast](t)(cast.Mirrored(alone(at(1000, 0, 0)), 0, 1000)).Gum, []api.Cell{at(1000, 0, 0)})
	same(t, "Mirrored at the border", fine[cast.Cast](t)(cast.Mirrored(cast.Cast{Name: "c"}, 0, -1000)), cast.Cast{Name: "c"})
}

func TestRenamed(t *testing.T) {
	want := chapter()
	want.Teeth[1].Name = "x_1"
	same(t, "Renamed", fine[cast.Cast](t)(cast.Renamed(chapter(), "b", "x_1")), want)
	same(t, "Renamed to its own name", fine[cast.Cast](t)(cast.Renamed(chapter(), "b", "b")), chapter())
	same(t, "Renamed to the name of the cast", fine[cast.Cast](t)(cast.Renamed(chapter(), "a", "c")).Teeth[0].Name, "c")
	for _, row := range []struct {
		from, to string
		e        api.Errno
	}{
		{"x", "y", api.ErrUnknown}, {"", "y", api.ErrUnknown}, {"x", "-", api.ErrUnknown}, {"x", "a", api.ErrUnknown}, {"c", "c", api.ErrUnknown},
		{"a", "", api.ErrName}, {"a", "-", api.ErrName}, {"a", "abcdefghijklmnopqrstuvwxy", api.ErrName},
		{"a", "b", api.ErrTwice}, {"b", "a", api.ErrTwice},
	} {
		got, e := cast.Renamed(chapter(), row.from, row.to)
		refused(t, "Renamed "+row.from+" to "+row.to, got, e, row.e)
	}
}

// TestMovedMemory changes all of a result, which must not change the cast from which it was made.
func TestMovedMemory(t *testing.T) {
	results := map[string]func(cast.Cast) (cast.Cast, api.Errno){
		"Shifted":  func(c cast.Cast) (cast.Cast, api.Errno) { return cast.Shifted(c, at(0, 0, 0)) },
		"Turned":   func(c cast.Cast) (cast.Cast, api.Errno) { return cast.Turned(c, 0, at(0, 0, 0)) },
		"Mirrored": func(c cast.Cast) (cast.Cast, api.Errno) { return cast.Mirrored(c, 1, 0) },
		"Renamed":  func(c cast.Cast) (cast.Cast, api.Errno) { return cast.Renamed(c, "a", "d") },
	}
	for what, of := range results {
		c := chapter()
		result := fine[cast.Cast](t)(of(c))
		same(t, "the argument of "+what, c, chapter())
		for i := range result.Teeth {
			tooth := &result.Teeth[i]
			tooth.Cells[0] = at(9, 9, 9)
			for k := range tooth.Marks {
				tooth.Marks[k].Name = "x"
			}
			tooth.Name = "x"
		}
		result.Gum[0], result.Base[0] = at(9, 9, 9), at(9, 9, 9)
		same(t, "the argument of "+what+" afterwards", c, chapter())
	}
}
