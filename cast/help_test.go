package cast_test

import (
	"cmp"
	"fmt"
	"math/rand/v2"
	"reflect"
	"slices"
	"testing"

	"cusp/api"
	"cusp/cast"
	"cusp/grid"
)

const (
	least    = -1 << 63
	greatest = 1<<63 - 1
)

// plain returns a value with nil for each empty list in it: both are the same.
func plain(v any) any {
	switch x := v.(type) {
	case []api.Cell:
		return none(x)
	case []int:
		return none(x)
	case [][2]int:
		return none(x)
	case []cast.Face:
		return none(x)
	case []cast.Edge:
		return none(x)
	case cast.Tooth:
		x.Cells, x.Marks = none(x.Cells), none(x.Marks)
		return x
	case cast.Cast:
		x.Teeth = none(slices.Clone(x.Teeth))
		for i, t := range x.Teeth {
			x.Teeth[i] = plain(t).(cast.Tooth)
		}
		x.Gum, x.Base = none(x.Gum), none(x.Base)
		return x
	case cast.Scan:
		x.Empty = none(x.Empty)
		return x
	case cast.Known:
		x.Solid, x.Empty, x.Open = none(x.Solid), none(x.Empty), none(x.Open)
		return x
	}
	return v
}

func none[T any](l []T) []T {
	if len(l) == 0 {
		return nil
	}
	return l
}

// same reports a result that is not the wanted one; nil and empty lists are equal.
func same[T any](t *testing.T, what string, got, wanted T) {
	t.Helper()
	if !reflect.DeepEqual(plain(got), plain(wanted)) {
		t.Errorf("%s: got %s, want %s", what, short(got), short(wanted))
	}
}

// short returns the beginning of a text for a value: some have thousands of cells.
func short(v any) string {
	s := fmt.Sprintf("%+v", v)
	return s[:min(len(s), 300)]
}

// refused reports another error than the wanted one, and a result beside it.
func refused[T any](t *testing.T, what string, got T, e, wanted api.Errno) {
	t.Helper()
	same(t, what, e, wanted)
	if v := reflect.ValueOf(plain(got)); !v.IsZero() {
		t.Errorf("%s: got %s beside an error", what, short(got))
	}
}

// fine returns a result, and reports its error.
func fine[T any](t *testing.T) func(T, api.Errno) T {
	return func(got T, e api.Errno) T {
		t.Helper()
		if e != api.OK {
			t.Errorf("error %d of what is right", e)
		}
		return got
	}
}

func at(x, y, z int) api.Cell { return api.Cell{X: x, Y: y, Z: z} }

func box(low, high api.Cell) grid.Box { return grid.Box{Low: low, High: high} }

// block returns the cells of a box.
func block(t *testing.T, low, high api.Cell) []api.Cell {
	t.Helper()
	return fine[[]api.Cell](t)(grid.Block(box(low, high)))
}

// parts returns a cell as an array, by the axes.
func parts(c api.Cell) [3]int { return [3]int{c.X, c.Y, c.Z} }

// moved returns a cell that is moved along an axis.
func moved(c api.Cell, axis, by int) api.Cell {
	p := parts(c)
	p[axis] += by
	return at(p[0], p[1], p[2])
}

func compare(a, b api.Cell) int {
	return cmp.Or(a.X-b.X, a.Y-b.Y, a.Z-b.Z)
}

func ascending(l []api.Cell) []api.Cell {
	out := slices.Clone(l)
	slices.SortFunc(out, compare)
	return out
}

// chapter returns the cast C of the chapter's examples.
func chapter() cast.Cast {
	return cast.Cast{Name: "c", Teeth: []cast.Tooth{
		{Name: "a", Cells: []api.Cell{at(0, 0, 0), at(0, 0, 1)}, Axis: at(0, 0, 1), Marks: []cast.Mark{{Name: "tip", At: at(0, 0, 1)}}},
		{Name: "b", Cells: []api.Cell{at(1, 0, 0)}, Axis: at(0, 0, 1)},
	}, Gum: []api.Cell{at(0, 0, -1), at(1, 0, -1)}, Base: []api.Cell{at(0, 0, -2)}}
}

// chapterCells returns all cells of C.
func chapterCells() []api.Cell {
	return []api.Cell{at(0, 0, -2), at(0, 0, -1), at(0, 0, 0), at(0, 0, 1), at(1, 0, -1), at(1, 0, 0)}
}

// chapterBox returns the box of the chapter's examples.
func chapterBox() grid.Box { return box(at(0, 0, -2), at(1, 0, 1)) }

func dice() *rand.Rand { return rand.New(rand.NewPCG(13, 17)) }

// scattered returns a set of cells with coordinates from -size to size; of these one of so many is taken.
func scattered(r *rand.Rand, size, of int) []api.Cell {
	var l []api.Cell
	for x := -size; x <= size; x++ {
		for y := -size; y <= size; y++ {
			for z := -size; z <= size; z++ {
				if r.IntN(of) == 0 {
					l = append(l, at(x, y, z))
				}
			}
		}
	}
	return l
}

// randomBox returns a box with coordinates from -4 to 4.
func randomBox(r *rand.Rand) grid.Box {
	low := at(r.IntN(6)-4, r.IntN(6)-4, r.IntN(6)-4)
	return box(low, at(low.X+r.IntN(4), low.Y+r.IntN(4), low.Z+r.IntN(4)))
}

// randomCast returns a cast with up to five teeth around 0 0 0.
func randomCast(r *rand.Rand) cast.Cast {
	c := cast.Cast{Name: "random", Upper: r.IntN(2) == 0}
	sets := make([][]api.Cell, 8)
	for _, cell := range scattered(r, 2, 1) {
		n := r.IntN(len(sets))
		sets[n] = append(sets[n], cell)
	}
	c.Gum, c.Base = sets[0], sets[1]
	for i, l := range sets[2 : 2+r.IntN(6)] {
		if len(l) == 0 {
			continue
		}
		tooth := cast.Tooth{Name: fmt.Sprintf("t%d", 9-i), Cells: l, Axis: at(r.IntN(2001)-1000, r.IntN(5)-2, 1)}
		for k := range r.IntN(4) {
			tooth.Marks = append(tooth.Marks, cast.Mark{Name: fmt.Sprintf("m%d", 9-k), At: l[r.IntN(len(l))]})
		}
		c.Teeth = append(c.Teeth, tooth)
	}
	return c
}

// faulty is a cast with an error.
type faulty struct {
	what string
	c    cast.Cast
	e    api.Errno
}

// faultyCasts returns casts with each kind of error.
func faultyCasts() []faulty {
	var l []faulty
	add := func(what string, e api.Errno, change func(c *cast.Cast)) {
		c := chapter()
		change(&c)
		l = append(l, faulty{what, c, e})
	}
	add("no name", api.ErrName, func(c *cast.Cast) { c.Name = "" })
	add("too many teeth", api.ErrMany, func(c *cast.Cast) { c.Teeth = manyTeeth(33) })
	add("a name twice", api.ErrTwice, func(c *cast.Cast) { c.Teeth[1].Name = "a" })
	add("a tooth without cells", api.ErrEmpty, func(c *cast.Cast) { c.Teeth[1].Cells = nil })
	add("a cell that is none", api.ErrRange, func(c *cast.Cast) { c.Gum[1].X = greatest })
	add("a wrong order", api.ErrOrder, func(c *cast.Cast) { c.Base = []api.Cell{at(0, 0, -2), at(0, 0, -3)} })
	add("no axis", api.ErrZero, func(c *cast.Cast) { c.Teeth[0].Axis = at(0, 0, 0) })
	add("a landmark elsewhere", api.ErrUnknown, func(c *cast.Cast) { c.Teeth[0].Marks[0].At = at(1, 0, 0) })
	add("a cell twice", api.ErrHit, func(c *cast.Cast) { c.Base = []api.Cell{at(0, 0, 1)} })
	return l
}

// manyTeeth returns so many teeth of one cell.
func manyTeeth(n int) []cast.Tooth {
	var l []cast.Tooth
	for i := range n {
		l = append(l, cast.Tooth{Name: fmt.Sprintf("t%d", i), Cells: []api.Cell{at(i, 50, 0)}, Axis: at(0, 0, 1)})
	}
	return l
}

// faultyCells returns lists of cells with errors, and these.
func faultyCells() map[api.Errno][]api.Cell {
	return map[api.Errno][]api.Cell{
		api.ErrMany:  make([]api.Cell, api.MaxCells+1),
		api.ErrRange: {at(0, 0, 0), at(0, 0, api.MaxSize+1)},
		api.ErrOrder: {at(0, 0, 1), at(0, 0, 0)},
	}
}

// badCells returns cells that are none.
func badCells() []api.Cell {
	return []api.Cell{at(1001, 0, 0), at(-1001, 0, 0), at(0, 1001, 0), at(0, -1001, 0), at(0, 0, 1001), at(0, 0, -1001), at(least, 0, 0), at(0, greatest, 0), at(0, 0, least)}
}

// faultyBox is a box with an error.
type faultyBox struct {
	b grid.Box
	e api.Errno
}

func faultyBoxes() []faultyBox {
	return []faultyBox{
		{box(at(-1001, 0, 0), at(0, 0, 0)), api.ErrRange}, {box(at(0, 0, 0), at(0, 1001, 0)), api.ErrRange}, {box(at(1, 0, 0), at(0, 0, 1001)), api.ErrRange}, {box(at(least, least, least), at(greatest, greatest, greatest)), api.ErrRange},
		{box(at(1, 0, 0), at(0, 0, 0)), api.ErrOrder}, {box(at(0, 0, 1), at(500, 500, 0)), api.ErrOrder},
		{box(at(0, 0, 0), at(16, 15, 15)), api.ErrMany},
	}
}
