package insert_test

import (
	"cmp"
	"fmt"
	"math/big"
	"math/rand/v2"
	"reflect"
	"slices"
	"strings"
	"testing"

	"cusp/api"
	"cusp/insert"
)

const (
	least    = -1 << 63
	greatest = 1<<63 - 1
)

// plain returns a value with nil for an empty list: both are the same.
func plain(v any) any {
	switch x := v.(type) {
	case []int:
		return none(x)
	case []api.Cell:
		return none(x)
	case []insert.Tilt:
		return none(x)
	case insert.Proof:
		return insert.Proof{Walls: none(x.Walls), Weights: none(x.Weights)}
	}
	return v
}

func none[T any](l []T) []T {
	if len(l) == 0 {
		return nil
	}
	return l
}

// same reports a result that is not the wanted one; nil and empty lists are equal.
func same[T any](t *testing.T, what string, got, wanted T) {
	t.Helper()
	if !reflect.DeepEqual(plain(got), plain(wanted)) {
		t.Errorf("%s: got %s, want %s", what, short(got), short(wanted))
	}
}

// short returns the beginning of a text for a value: some texts have thousands of bytes.
func short(v any) string {
	s := fmt.Sprintf("%+v", v)
	return s[:min(len(s), 300)]
}

// refused reports another error than the wanted one, and a result beside it.
func refused[T any](t *testing.T, what string, got T, e, wanted api.Errno) {
	t.Helper()
	same(t, what, e, wanted)
	if !reflect.ValueOf(plain(got)).IsZero() {
		t.Errorf("%s: got %s beside an error", what, short(got))
	}
}

// fine returns a result, and reports its error.
func fine[T any](t *testing.T) func(T, api.Errno) T {
	return func(got T, e api.Errno) T {
		t.Helper()
		if e != api.OK {
			t.Errorf("error %d of what is right", e)
		}
		return got
	}
}

func at(x, y, z int) api.Cell { return api.Cell{X: x, Y: y, Z: z} }

func plus(a, b api.Cell) api.Cell { return at(a.X+b.X, a.Y+b.Y, a.Z+b.Z) }

func compare(a, b api.Cell) int {
	return cmp.Or(cmp.Compare(a.X, b.X), cmp.Compare(a.Y, b.Y), cmp.Compare(a.Z, b.Z))
}

// setOf returns the set of some cells.
func setOf(cells ...api.Cell) []api.Cell {
	l := slices.Clone(cells)
	slices.SortFunc(l, compare)
	return slices.Compact(l)
}

// chapter returns the walls W of the chapter's examples, and further ones.
func chapter(more ...api.Cell) []api.Cell {
	return append([]api.Cell{at(1, 0, 0), at(-1, 0, 1), at(0, 1, 1), at(0, -1, 1)}, more...)
}

// row returns n cells of rows along Z, from 0 on.
func row(n int) []api.Cell {
	var l []api.Cell
	for i := range n {
		l = append(l, at(i/1000, 0, i%1000))
	}
	return l
}

// many returns a list of n same elements.
func many[T any](n int, x T) []T { return slices.Repeat([]T{x}, n) }

func dice() *rand.Rand { return rand.New(rand.NewPCG(41, 43)) }

// between returns a number from low to high.
func between(r *rand.Rand, low, high int) int { return low + r.IntN(high-low+1) }

// randomVector returns a vector with numbers from -size to size.
func randomVector(r *rand.Rand, size int) api.Cell {
	return at(between(r, -size, size), between(r, -size, size), between(r, -size, size))
}

// randomWalls returns up to n walls with numbers from -size to size. For most of them the tilt 0 0 is permitted.
func randomWalls(r *rand.Rand, n, size int) []api.Cell {
	var l []api.Cell
	for range between(r, 0, n) {
		w := randomVector(r, size)
		if r.IntN(8) > 0 {
			w.Z = max(w.Z, -w.Z)
		}
		if w != at(0, 0, 0) {
			l = append(l, w)
		}
	}
	return l
}

// steepWalls returns up to n walls with numbers from -size to size, any of them as likely as others.
func steepWalls(r *rand.Rand, n, size int) []api.Cell {
	var l []api.Cell
	for range between(r, 0, n) {
		if w := randomVector(r, size); w != at(0, 0, 0) {
			l = append(l, w)
		}
	}
	return l
}

// randomSet returns a set of 1 to n cells of a box.
func randomSet(r *rand.Rand, n int, low, high api.Cell) []api.Cell {
	var l []api.Cell
	for range between(r, 1, n) {
		l = append(l, at(between(r, low.X, high.X), between(r, low.Y, high.Y), between(r, low.Z, high.Z)))
	}
	return setOf(l...)
}

func randomDirection(r *rand.Rand) api.Cell {
	n := []int{1, 3, 8}[r.IntN(3)]
	return at(between(r, -n, n), between(r, -n, n), between(r, 1, n))
}

// value returns the value of a number.
func value(a api.Rat) *big.Rat {
	v, _ := new(big.Rat).SetString(string(a))
	return v
}

func ratio(a, b int) *big.Rat { return big.NewRat(int64(a), int64(b)) }

// nines returns the text of n nines.
func nines(n int) string { return strings.Repeat("9", n) }

// limited returns the walls with those of a limit behind them.
func limited(walls []api.Cell, steep int) []api.Cell {
	return slices.Concat(walls, []api.Cell{at(1, 0, steep), at(-1, 0, steep), at(0, 1, steep), at(0, -1, steep)})
}

// point is a tilt.
type point struct {
	x, y *big.Rat
}

func pointOf(t insert.Tilt) point { return point{value(t.X), value(t.Y)} }

func (p point) tilt() insert.Tilt {
	return insert.Tilt{X: api.Rat(p.x.RatString()), Y: api.Rat(p.y.RatString())}
}

func (p point) compare(q point) int { return cmp.Or(p.x.Cmp(q.x), p.y.Cmp(q.y)) }

// towards returns the point on the way to another one, at a part of the way.
func (p point) towards(q point, part *big.Rat) point {
	mix := func(a, b *big.Rat) *big.Rat {
		d := new(big.Rat).Sub(b, a)
		return d.Add(a, d.Mul(d, part))
	}
	return point{mix(p.x, q.x), mix(p.y, q.y)}
}

// height returns what a wall has to say about a tilt: below 0 it does not permit it.
func height(w api.Cell, p point) *big.Rat {
	x := new(big.Rat).Mul(ratio(w.X, 1), p.x)
	y := new(big.Rat).Mul(ratio(w.Y, 1), p.y)
	return x.Add(x, y.Add(y, ratio(w.Z, 1)))
}

// turning returns the sign of the turn at b on the way from a to c: 1 to the left, -1 to the right.
func turning(a, b, c point) int {
	product := func(p, q, r, s *big.Rat) *big.Rat {
		return new(big.Rat).Mul(new(big.Rat).Sub(p, q), new(big.Rat).Sub(r, s))
	}
	return product(b.x, a.x, c.y, b.y).Cmp(product(b.y, a.y, c.x, b.x))
}

// clipped returns the part of a polygon that a wall permits, possibly with points that are no corners.
func clipped(polygon []point, w api.Cell) []point {
	var out []point
	for i, to := range polygon {
		from := polygon[(i+len(polygon)-1)%len(polygon)]
		a, b := height(w, from), height(w, to)
		if a.Sign()*b.Sign() < 0 {
			out = append(out, from.towards(to, new(big.Rat).Quo(a, new(big.Rat).Sub(a, b))))
		}
		if b.Sign() >= 0 {
			out = append(out, to)
		}
	}
	return out
}

// withoutExtra returns the corners of a polygon: without repeated points, and those between two others.
func withoutExtra(polygon []point) []point {
	for i := 0; len(polygon) > 1 && i < len(polygon); i++ {
		n := len(polygon)
		before, p, after := polygon[(i+n-1)%n], polygon[i], polygon[(i+1)%n]
		isBetween := before.compare(p)*p.compare(after) > 0
		if p.compare(after) == 0 || n > 2 && turning(before, p, after) == 0 && isBetween {
			polygon = slices.Delete(slices.Clone(polygon), i, i+1)
			i = -1
		}
	}
	return polygon
}

// polygonOf returns the corners of the permitted tilts: the square of the limit, from which each wall cuts off what it does not permit.
func polygonOf(walls []api.Cell, steep int) []point {
	low, high := ratio(-steep, 1), ratio(steep, 1)
	polygon := []point{{low, low}, {high, low}, {high, high}, {low, high}}
	for _, w := range walls {
		polygon = withoutExtra(clipped(polygon, w))
	}
	if len(polygon) == 0 {
		return nil
	}
	first := 0
	for i, p := range polygon {
		if p.compare(polygon[first]) < 0 {
			first = i
		}
	}
	return slices.Concat(polygon[first:], polygon[:first])
}

// shift returns the shift after k steps: the greatest numbers whose multiples are not above those of the direction.
func shift(d api.Cell, k int) api.Cell {
	floor := func(n int) int {
		q := -k * 8
		for (q+1)*d.Z <= n {
			q++
		}
		return q
	}
	return at(floor(k*d.X), floor(k*d.Y), k)
}

// common returns the first cell of a part, shifted, that is in a base.
func common(part, base []api.Cell, by api.Cell) (api.Cell, bool) {
	for _, c := range part {
		if slices.Contains(base, plus(c, by)) {
			return plus(c, by), true
		}
	}
	return api.Cell{}, false
}

// stuck returns the first number of steps after which a part hits a base, by the definition; the sets are at most 30 high together.
func stuck(part, base []api.Cell, d api.Cell) (int, api.Cell, bool) {
	for k := range 31 {
		if c, hits := common(part, base, shift(d, k)); hits {
			return k, c, true
		}
	}
	return 0, api.Cell{}, false
}

// hits reports whether a part hits a base.
func hits(part, base []api.Cell, d api.Cell) bool {
	_, _, is := stuck(part, base, d)
	return is
}

// blockOf returns the cells of the block of a base.
func blockOf(base []api.Cell) []api.Cell {
	if len(base) == 0 {
		return nil
	}
	low, high := base[0], base[0]
	for _, c := range base {
		low = at(min(low.X, c.X), min(low.Y, c.Y), min(low.Z, c.Z))
		high = at(max(high.X, c.X), max(high.Y, c.Y), max(high.Z, c.Z))
	}
	var l []api.Cell
	for x := low.X; x <= high.X; x++ {
		for y := low.Y; y <= high.Y; y++ {
			for z := low.Z; z <= high.Z; z++ {
				l = append(l, at(x, y, z))
			}
		}
	}
	return l
}

// badCells returns cells that are none.
func badCells() []api.Cell {
	return []api.Cell{at(1001, 0, 0), at(-1001, 0, 0), at(0, 1001, 0), at(0, -1001, 0), at(0, 0, 1001), at(0, 0, -1001), at(least, 0, 0), at(0, greatest, 0), at(0, 0, least)}
}

// faulty is an argument with an error.
type faulty[T any] struct {
	what string
	arg  T
	e    api.Errno
}

// faultyWalls returns walls with each kind of error.
func faultyWalls() []faulty[[]api.Cell] {
	l := []faulty[[]api.Cell]{
		{"too many walls", many(65, at(0, 0, 1)), api.ErrMany},
		{"too many walls, the first one 0 0 0", many(65, at(0, 0, 0)), api.ErrMany},
		{"a wall 0 0 0", chapter(at(0, 0, 0)), api.ErrZero},
		{"a wall 0 0 0 before one out of range", chapter(at(0, 0, 0), at(1001, 0, 0)), api.ErrZero},
		{"a wall out of range before 0 0 0", chapter(at(0, 0, -1001), at(0, 0, 0)), api.ErrRange},
	}
	for _, c := range badCells() {
		l = append(l, faulty[[]api.Cell]{"a wall out of range", chapter(c), api.ErrRange})
	}
	return l
}

// faultyGroups returns groups of walls with each kind of error.
func faultyGroups() []faulty[[][]api.Cell] {
	l := []faulty[[][]api.Cell]{
		{"too many groups", make([][]api.Cell, 9), api.ErrMany},
		{"too many groups, one of them faulty", many(9, []api.Cell{{}}), api.ErrMany},
		{"first a wall 0 0 0", [][]api.Cell{chapter(), {at(1, 1, 1), {}}, {at(1001, 0, 0)}}, api.ErrZero},
	}
	for _, w := range faultyWalls() {
		l = append(l, faulty[[][]api.Cell]{w.what, [][]api.Cell{chapter(), w.arg}, w.e})
	}
	return l
}

// faultySets returns sets of cells with each kind of error.
func faultySets() []faulty[[]api.Cell] {
	l := []faulty[[]api.Cell]{
		{"too many cells", row(4097), api.ErrMany},
		{"cells in a wrong order", []api.Cell{at(0, 0, 1), at(0, 0, 0)}, api.ErrOrder},
		{"a cell twice", []api.Cell{at(0, 0, 1), at(0, 0, 1)}, api.ErrOrder},
	}
	for _, c := range badCells() {
		l = append(l, faulty[[]api.Cell]{"a cell that is none", []api.Cell{c}, api.ErrRange})
	}
	return l
}

// faultyParts returns parts with each kind of error.
func faultyParts() []faulty[[][]api.Cell] {
	l := []faulty[[][]api.Cell]{
		{"too many parts", make([][]api.Cell, 9), api.ErrMany},
		{"too many parts, one of them faulty", many(9, []api.Cell{at(0, 0, 1001)}), api.ErrMany},
		{"first cells in a wrong order", [][]api.Cell{{at(0, 0, 1), at(0, 0, 0)}, {at(1001, 0, 0)}}, api.ErrOrder},
	}
	for _, s := range faultySets() {
		l = append(l, faulty[[][]api.Cell]{s.what, [][]api.Cell{{at(0, 0, 0)}, s.arg}, s.e})
	}
	return l
}

// faultyDirections returns vectors that are no directions.
func faultyDirections() []api.Cell {
	return []api.Cell{at(0, 0, 0), at(0, 0, -1), at(0, 0, 9), at(9, 0, 1), at(-9, 0, 1), at(0, 9, 1), at(0, -9, 1), at(0, 0, least), at(0, 0, greatest), at(least, 0, 1), at(0, greatest, 1)}
}

// faultyLimits returns numbers that are no limits.
func faultyLimits() []int { return []int{0, 9, -1, least, greatest} }

// faultyNumbers returns texts that are no numbers.
func faultyNumbers() []faulty[api.Rat] {
	return []faulty[api.Rat]{
		{"no text", "", api.ErrForm},
		{"a plus sign", "+1", api.ErrForm},
		{"a common divisor", "2/4", api.ErrForm},
		{"a denominator 1", "3/1", api.ErrForm},
		{"minus 0", "-0", api.ErrForm},
		{"601 digits above", api.Rat(nines(601)), api.ErrLarge},
		{"601 digits below", api.Rat("1/1" + strings.Repeat("0", 600)), api.ErrLarge},
	}
}
