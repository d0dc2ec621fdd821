package restore_test

import (
	"cmp"
	"fmt"
	"math/rand/v2"
	"reflect"
	"slices"
	"testing"

	"cusp/api"
	"cusp/restore"
)

const (
	least    = -1 << 63
	greatest = 1<<63 - 1
)

// plain returns a value with nil for an empty list: both are the same.
func plain(v any) any {
	switch x := v.(type) {
	case []int:
		return none(x)
	case []api.Cell:
		return none(x)
	case []restore.Section:
		return none(x)
	case [][]api.Cell:
		return none(x)
	case restore.Plan:
		x.Stump, x.Shape, x.Others = none(x.Stump), none(x.Shape), none(x.Others)
		return x
	}
	return v
}

func none[T any](l []T) []T {
	if len(l) == 0 {
		return nil
	}
	return l
}

// same reports a result that is not the wanted one; nil and empty lists are equal.
func same[T any](t *testing.T, what string, got, wanted T) {
	t.Helper()
	if !reflect.DeepEqual(plain(got), plain(wanted)) {
		t.Errorf("%s: got %s, want %s", what, short(got), short(wanted))
	}
}

// short returns the beginning of a text for a value: some texts have thousands of bytes.
func short(v any) string {
	s := fmt.Sprintf("%+v", v)
	return s[:min(len(s), 400)]
}

// refused reports another error than the wanted one, and a result beside it.
func refused[T any](t *testing.T, what string, got T, e, wanted api.Errno) {
	t.Helper()
	same(t, what, e, wanted)
	if v := plain(got); v != nil && !reflect.ValueOf(v).IsZero() {
		t.Errorf("%s: got %s beside an error", what, short(got))
	}
}

// fine returns a result, and reports its error.
func fine[T any](t *testing.T) func(T, api.Errno) T {
	return func(got T, e api.Errno) T {
		t.Helper()
		if e != api.OK {
			t.Errorf("error %d of what is right", e)
		}
		return got
	}
}

func at(x, y, z int) api.Cell { return api.Cell{X: x, Y: y, Z: z} }

func plus(a, b api.Cell) api.Cell { return at(a.X+b.X, a.Y+b.Y, a.Z+b.Z) }

func compare(a, b api.Cell) int {
	return cmp.Or(cmp.Compare(a.X, b.X), cmp.Compare(a.Y, b.Y), cmp.Compare(a.Z, b.Z))
}

// setOf returns the set of some cells.
func setOf(cells ...api.Cell) []api.Cell {
	l := slices.Clone(cells)
	slices.SortFunc(l, compare)
	return slices.Compact(l)
}

// block returns the cells of a box.
func block(low, high api.Cell) []api.Cell {
	var l []api.Cell
	for x := low.X; x <= high.X; x++ {
		for y := low.Y; y <= high.Y; y++ {
			for z := low.Z; z <= high.Z; z++ {
				l = append(l, at(x, y, z))
			}
		}
	}
	return l
}

// row returns n cells of rows along Z, from 0 on.
func row(n int) []api.Cell {
	var l []api.Cell
	for i := range n {
		l = append(l, at(i/1000, 0, i%1000))
	}
	return l
}

// without returns the cells of a list that are not in another one.
func without(l, others []api.Cell) []api.Cell {
	return where(l, func(c api.Cell) bool { return !slices.Contains(others, c) })
}

// common returns the cells of a list that are in another one.
func common(l, others []api.Cell) []api.Cell {
	return where(l, func(c api.Cell) bool { return slices.Contains(others, c) })
}

// where returns the cells of a list of which something is so.
func where(l []api.Cell, is func(api.Cell) bool) []api.Cell {
	return slices.DeleteFunc(slices.Clone(l), func(c api.Cell) bool { return !is(c) })
}

// many returns a list of n same elements.
func many[T any](n int, x T) []T { return slices.Repeat([]T{x}, n) }

func dice() *rand.Rand { return rand.New(rand.NewPCG(61, 67)) }

// between returns a number from low to high.
func between(r *rand.Rand, low, high int) int { return low + r.IntN(high-low+1) }

// randomCell returns a cell of a box.
func randomCell(r *rand.Rand, low, high api.Cell) api.Cell {
	return at(between(r, low.X, high.X), between(r, low.Y, high.Y), between(r, low.Z, high.Z))
}

// randomSet returns a set of 1 to n cells of a box.
func randomSet(r *rand.Rand, n int, low, high api.Cell) []api.Cell {
	var l []api.Cell
	for range between(r, 1, n) {
		l = append(l, randomCell(r, low, high))
	}
	return setOf(l...)
}

// some returns about n of m cells of a list.
func some(r *rand.Rand, l []api.Cell, n, m int) []api.Cell {
	return where(l, func(api.Cell) bool { return r.IntN(m) < n })
}

func randomWay(r *rand.Rand) api.Cell {
	n := []int{0, 1, 2, 8}[r.IntN(4)]
	return at(between(r, -n, n), between(r, -n, n), between(r, 1, max(n, 1)))
}

// sample returns the plan P of the chapter.
func sample() restore.Plan {
	return restore.Plan{Stump: []api.Cell{at(0, 0, 0), at(0, 0, 1)}, Shape: block(at(-1, -1, 0), at(1, 1, 2)), Wall: 1, Margin: -1, Way: at(0, 0, 1)}
}

// changed returns the plan P of the chapter with changes.
func changed(change ...func(p *restore.Plan)) restore.Plan {
	p := sample()
	for _, f := range change {
		f(&p)
	}
	return p
}

// copied returns a plan in new memory.
func copied(p restore.Plan) restore.Plan {
	p.Stump, p.Shape, p.Others = slices.Clone(p.Stump), slices.Clone(p.Shape), slices.Clone(p.Others)
	return p
}

// randomPlan returns a plan whose shape is a block, or scattered, around a stump.
func randomPlan(r *rand.Rand) restore.Plan {
	p := restore.Plan{
		Stump:  randomSet(r, 8, at(-2, -2, -3), at(2, 2, 2)),
		Shape:  block(at(-3, between(r, -2, 0), between(r, -4, 0)), at(between(r, 0, 3), 2, 3)),
		Others: randomSet(r, 20, at(-4, -4, -4), at(4, 4, 4)),
		Gap:    []int{0, 0, 1, 1, 2, 3, 8}[r.IntN(7)],
		Wall:   between(r, 0, 3),
		Margin: between(r, -5, 1),
		Way:    randomWay(r),
	}
	if r.IntN(4) == 0 {
		p.Shape = randomSet(r, 60, at(-4, -4, -5), at(4, 4, 5))
	}
	if r.IntN(4) == 0 {
		p.Others = nil
	}
	return p
}

// apart returns the number of steps from one cell to another one.
func apart(a, b api.Cell) int {
	size := func(n int) int { return max(n, -n) }
	return size(a.X-b.X) + size(a.Y-b.Y) + size(a.Z-b.Z)
}

// nearest returns the number of steps from a cell to the nearest one of a list with cells.
func nearest(c api.Cell, l []api.Cell) int {
	n := apart(c, l[0])
	for _, d := range l {
		n = min(n, apart(c, d))
	}
	return n
}

// besides returns the neighbours of a cell that are in a list.
func besides(c api.Cell, l []api.Cell) []api.Cell {
	return where(l, func(d api.Cell) bool { return apart(c, d) == 1 })
}

// shift returns the shift after k steps: the greatest numbers whose multiples are not above those of the way.
func shift(way api.Cell, k int) api.Cell {
	floor := func(n int) int {
		q := n / way.Z
		for q*way.Z > n {
			q--
		}
		return q
	}
	return at(floor(k*way.X), floor(k*way.Y), k)
}

// comes reports whether a cell comes within the gap of the stump of a plan on its way, by the definition; they are less than 40 high together.
func comes(p restore.Plan, c api.Cell) bool {
	for k := range 40 {
		if nearest(plus(c, shift(p.Way, k)), p.Stump) <= p.Gap {
			return true
		}
	}
	return false
}

// crownOf returns the crown of a plan by the definition.
func crownOf(p restore.Plan) []api.Cell {
	return where(p.Shape, func(c api.Cell) bool { return !comes(p, c) })
}

// skinOf returns the skin of a plan by the definition; the shape is from -6 to 6.
func skinOf(p restore.Plan) []api.Cell {
	has := map[api.Cell]bool{}
	for _, c := range p.Shape {
		has[c] = true
	}
	return where(block(at(-7, -7, -7), at(7, 7, 7)), func(c api.Cell) bool {
		isBeside := has[plus(c, at(1, 0, 0))] || has[plus(c, at(-1, 0, 0))] ||
			has[plus(c, at(0, 1, 0))] || has[plus(c, at(0, -1, 0))] ||
			has[plus(c, at(0, 0, 1))] || has[plus(c, at(0, 0, -1))]
		return !has[c] && c.Z > p.Margin && isBeside
	})
}

// insideOf returns the inside of a part above the margin.
func insideOf(p restore.Plan, part []api.Cell) []api.Cell {
	return where(without(p.Shape, part), func(c api.Cell) bool { return c.Z > p.Margin })
}

// isOne reports whether a set is one part: all of it is reached from its first cell.
func isOne(l []api.Cell) bool {
	if len(l) == 0 {
		return false
	}
	reached, left := []api.Cell{l[0]}, slices.Clone(l[1:])
	for i := 0; i < len(reached); i++ {
		next := besides(reached[i], left)
		reached, left = append(reached, next...), without(left, next)
	}
	return len(left) == 0
}

// badCells returns cells that are none.
func badCells() []api.Cell {
	return []api.Cell{at(1001, 0, 0), at(-1001, 0, 0), at(0, 1001, 0), at(0, -1001, 0), at(0, 0, 1001), at(0, 0, -1001), at(least, 0, 0), at(0, greatest, 0), at(0, 0, least)}
}

// faulty is an argument with an error.
type faulty[T any] struct {
	what string
	arg  T
	e    api.Errno
}

// faultySets returns sets of cells with each kind of error.
func faultySets() []faulty[[]api.Cell] {
	l := []faulty[[]api.Cell]{
		{"too many cells", row(4097), api.ErrMany},
		{"too many cells that are none", many(4097, at(0, 0, 1001)), api.ErrMany},
		{"cells in a wrong order", []api.Cell{at(0, 0, 1), at(0, 0, 0)}, api.ErrOrder},
		{"a cell twice", []api.Cell{at(0, 0, 1), at(0, 0, 1)}, api.ErrOrder},
		{"a wrong order before a cell that is none", []api.Cell{at(0, 0, 1), at(0, 0, 0), at(1001, 0, 0)}, api.ErrOrder},
	}
	for _, c := range badCells() {
		l = append(l, faulty[[]api.Cell]{"a cell that is none", []api.Cell{c}, api.ErrRange})
	}
	return l
}

// faultyWays returns vectors that are no directions.
func faultyWays() []api.Cell {
	return []api.Cell{at(0, 0, 0), at(0, 0, -1), at(0, 0, 9), at(9, 0, 1), at(-9, 0, 1), at(0, 9, 1), at(0, -9, 1), at(0, 0, least), at(0, 0, greatest), at(least, 0, 1), at(0, greatest, 1)}
}

// outOf returns numbers that are not from low to high.
func outOf(low, high int) []int { return []int{low - 1, high + 1, least, greatest} }

// faultyPlans returns plans with each kind of error, and with the first one of two.
func faultyPlans() []faulty[restore.Plan] {
	var l []faulty[restore.Plan]
	add := func(what string, e api.Errno, change func(p *restore.Plan)) {
		l = append(l, faulty[restore.Plan]{what, changed(change), e})
	}
	for _, s := range faultySets() {
		add("the stump: "+s.what, s.e, func(p *restore.Plan) { p.Stump, p.Shape, p.Others = s.arg, nil, row(4097) })
		add("the shape: "+s.what, s.e, func(p *restore.Plan) { p.Shape, p.Others = s.arg, []api.Cell{at(0, 0, 1), at(0, 0, 0)} })
		add("the others: "+s.what, s.e, func(p *restore.Plan) { p.Others, p.Shape = s.arg, []api.Cell{at(0, 1000, 0)} })
	}
	add("no stump", api.ErrEmpty, func(p *restore.Plan) { p.Stump, p.Shape = nil, row(4097) })
	add("no shape", api.ErrEmpty, func(p *restore.Plan) { p.Shape, p.Others = []api.Cell{}, row(4097) })
	for _, c := range []api.Cell{at(1000, 0, 0), at(-1000, 0, 0), at(0, 1000, 0), at(0, -1000, 0), at(0, 0, 1000), at(0, 0, -1000)} {
		add("a shape at the border", api.ErrRange, func(p *restore.Plan) { p.Shape = setOf(append(p.Shape, c)...) })
	}
	for _, n := range outOf(0, restore.MaxGap) {
		add("a gap", api.ErrRange, func(p *restore.Plan) { p.Gap = n })
		add("a wall", api.ErrRange, func(p *restore.Plan) { p.Wall = n })
	}
	for _, n := range outOf(-1000, 1000) {
		add("a margin", api.ErrRange, func(p *restore.Plan) { p.Margin = n })
	}
	for _, w := range faultyWays() {
		add("a way", api.ErrRange, func(p *restore.Plan) { p.Way = w })
	}
	return l
}
