package mill_test

import (
	"cmp"
	"fmt"
	"math/rand/v2"
	"reflect"
	"slices"
	"testing"

	"cusp/api"
	"cusp/grid"
	"cusp/mill"
)

const (
	least    = -1 << 63
	greatest = 1<<63 - 1
)

// plain returns a value with nil for an empty list: both are the same.
func plain(v any) any {
	switch x := v.(type) {
	case []int:
		return none(x)
	case []api.Cell:
		return none(x)
	case []mill.Place:
		return none(x)
	}
	return v
}

func none[T any](l []T) []T {
	if len(l) == 0 {
		return nil
	}
	return l
}

// made returns the list of what is made from the elements of a list.
func made[T, U any](l []T, from func(T) U) []U {
	var out []U
	for _, x := range l {
		out = append(out, from(x))
	}
	return out
}

// same reports a result that is not the wanted one; nil and empty lists are equal.
func same[T any](t *testing.T, what string, got, wanted T) {
	t.Helper()
	if !reflect.DeepEqual(plain(got), plain(wanted)) {
		t.Errorf("%s: got %s, want %s", what, short(got), short(wanted))
	}
}

// short returns the beginning of a text for a value: some texts have thousands of bytes.
func short(v any) string {
	s := fmt.Sprintf("%+v", v)
	return s[:min(len(s), 400)]
}

// refused reports another error than the wanted one, and a result beside it.
func refused[T any](t *testing.T, what string, got T, e, wanted api.Errno) {
	t.Helper()
	same(t, what, e, wanted)
	if v := plain(got); v != nil && !reflect.ValueOf(v).IsZero() {
		t.Errorf("%s: got %s beside an error", what, short(got))
	}
}

// fine returns a result, and reports its error.
func fine[T any](t *testing.T) func(T, api.Errno) T {
	return func(got T, e api.Errno) T {
		t.Helper()
		if e != api.OK {
			t.Errorf("error %d of what is right", e)
		}
		return got
	}
}

func at(x, y, z int) api.Cell { return api.Cell{X: x, Y: y, Z: z} }

func plus(a, b api.Cell) api.Cell { return at(a.X+b.X, a.Y+b.Y, a.Z+b.Z) }

func compare(a, b api.Cell) int {
	return cmp.Or(cmp.Compare(a.X, b.X), cmp.Compare(a.Y, b.Y), cmp.Compare(a.Z, b.Z))
}

// setOf returns the set of some cells.
func setOf(cells ...api.Cell) []api.Cell {
	l := slices.Clone(cells)
	slices.SortFunc(l, compare)
	return slices.Compact(l)
}

// boxOf returns the box from a cell to another one.
func boxOf(low, high api.Cell) grid.Box { return grid.Box{Low: low, High: high} }

// block returns the cells of a box.
func block(b grid.Box) []api.Cell {
	var l []api.Cell
	for x := b.Low.X; x <= b.High.X; x++ {
		for y := b.Low.Y; y <= b.High.Y; y++ {
			for z := b.Low.Z; z <= b.High.Z; z++ {
				l = append(l, at(x, y, z))
			}
		}
	}
	return l
}

// isIn reports whether all cells of a list are in a box.
func isIn(b grid.Box, l ...api.Cell) bool {
	return !slices.ContainsFunc(l, func(d api.Cell) bool {
		return d.X < b.Low.X || d.X > b.High.X || d.Y < b.Low.Y || d.Y > b.High.Y || d.Z < b.Low.Z || d.Z > b.High.Z
	})
}

// without returns the cells of a list that are not in another one.
func without(l, other []api.Cell) []api.Cell {
	isOther := setMap(other)
	return slices.DeleteFunc(slices.Clone(l), func(c api.Cell) bool { return isOther[c] })
}

func setMap(l []api.Cell) map[api.Cell]bool {
	m := map[api.Cell]bool{}
	for _, c := range l {
		m[c] = true
	}
	return m
}

// row returns n cells of rows along Z, from 0 on.
func row(n int) []api.Cell {
	var l []api.Cell
	for i := range n {
		l = append(l, at(i/1000, 0, i%1000))
	}
	return l
}

// many returns a list of n same elements.
func many[T any](n int, x T) []T { return slices.Repeat([]T{x}, n) }

func dice() *rand.Rand { return rand.New(rand.NewPCG(81, 83)) }

// between returns a number from low to high.
func between(r *rand.Rand, low, high int) int { return low + r.IntN(high-low+1) }

// randomCell returns a cell of a box.
func randomCell(r *rand.Rand, b grid.Box) api.Cell {
	return at(between(r, b.Low.X, b.High.X), between(r, b.Low.Y, b.High.Y), between(r, b.Low.Z, b.High.Z))
}

// randomSet returns a set of at most n cells of a box.
func randomSet(r *rand.Rand, n int, b grid.Box) []api.Cell {
	var l []api.Cell
	for range n {
		l = append(l, randomCell(r, b))
	}
	return setOf(l...)
}

// randomBox returns a box with up to some cells along each axis.
func randomBox(r *rand.Rand, x, y, z int) grid.Box {
	low := at(between(r, -3, 3), between(r, -3, 3), between(r, -3, 3))
	return boxOf(low, plus(low, at(r.IntN(x), r.IntN(y), r.IntN(z))))
}

// blankB returns the blank B of the chapter.
func blankB() grid.Box { return boxOf(at(0, 0, 0), at(2, 2, 1)) }

// op returns an operation.
func op(kind string, radius, dir int) mill.Op {
	return mill.Op{Tool: mill.Tool{Kind: kind, Radius: radius}, Dir: dir}
}

// cross returns the third setup of the chapter's examples.
func cross() mill.Setup {
	return mill.Setup{Blank: blankB(), Part: []api.Cell{at(0, 1, 0), at(1, 0, 0), at(1, 2, 0), at(2, 1, 0)}}
}

// spindles are the directions by their numbers.
func spindles() []api.Cell {
	return []api.Cell{at(0, 0, 1), at(1, 0, 0), at(-1, 0, 0), at(0, 1, 0), at(0, -1, 0)}
}

// isOccupied reports whether a tool occupies a cell at a centre by the definition.
func isOccupied(o mill.Op, centre, c api.Cell) bool {
	v, d := at(c.X-centre.X, c.Y-centre.Y, c.Z-centre.Z), spindles()[o.Dir]
	h, s, r := v.X*d.X+v.Y*d.Y+v.Z*d.Z, v.X*v.X+v.Y*v.Y+v.Z*v.Z, o.Tool.Radius
	return h >= 0 && s-h*h <= r*r || o.Tool.Kind == "ball" && h < 0 && s <= r*r
}

// occupied returns those of some cells that a tool occupies at a centre by the definition.
func occupied(l []api.Cell, o mill.Op, centre api.Cell) []api.Cell {
	return slices.DeleteFunc(slices.Clone(l), func(c api.Cell) bool { return !isOccupied(o, centre, c) })
}

// around returns a box with so many cells more at each side across a direction.
func around(b grid.Box, n, dir int) grid.Box {
	d := spindles()[dir]
	by := at(n*(1-d.X*d.X), n*(1-d.Y*d.Y), n*(1-d.Z*d.Z))
	return boxOf(plus(b.Low, at(-by.X, -by.Y, -by.Z)), plus(b.High, by))
}

// centres returns the centres at which a tool may stand by the definition.
func centres(s mill.Setup, o mill.Op) []api.Cell {
	return slices.DeleteFunc(block(around(s.Blank, o.Tool.Radius, o.Dir)), func(centre api.Cell) bool {
		return slices.ContainsFunc(s.Part, func(c api.Cell) bool { return isOccupied(o, centre, c) })
	})
}

// reach returns the cells that an operation takes away by the definition.
func reach(s mill.Setup, o mill.Op) []api.Cell {
	stands := centres(s, o)
	return slices.DeleteFunc(block(s.Blank), func(c api.Cell) bool {
		return !slices.ContainsFunc(stands, func(centre api.Cell) bool { return isOccupied(o, centre, c) })
	})
}

// left returns the cells that operations leave by the definition.
func left(s mill.Setup, l []mill.Op) []api.Cell {
	rest := without(block(s.Blank), s.Part)
	for _, o := range l {
		rest = without(rest, reach(s, o))
	}
	return rest
}

// randomOp returns an operation with a radius up to a number.
func randomOp(r *rand.Rand, radius int) mill.Op {
	return op([]string{"ball", "end"}[r.IntN(2)], between(r, 0, radius), r.IntN(5))
}

// randomOps returns up to n operations.
func randomOps(r *rand.Rand, n, radius int) []mill.Op {
	var l []mill.Op
	for range r.IntN(n + 1) {
		l = append(l, randomOp(r, radius))
	}
	return l
}

// randomSetup returns a setup of a small blank.
func randomSetup(r *rand.Rand) mill.Setup {
	s := mill.Setup{Blank: randomBox(r, 5, 5, 4)}
	s.Part = randomSet(r, r.IntN(2+len(block(s.Blank))/between(r, 1, 8)), s.Blank)
	return s
}

// turned returns a cell that is turned by quarters.
func turned(c api.Cell, quarters int) api.Cell {
	return []api.Cell{at(c.X, c.Y, c.Z), at(-c.Y, c.X, c.Z), at(-c.X, -c.Y, c.Z), at(c.Y, -c.X, c.Z)}[quarters]
}

// placed returns a part at a place by the definition.
func placed(l []api.Cell, p mill.Place) []api.Cell {
	all := made(l, func(c api.Cell) api.Cell { return turned(c, p.Quarters) })
	low := all[0]
	for _, c := range all {
		low = at(min(low.X, c.X), min(low.Y, c.Y), min(low.Z, c.Z))
	}
	return setOf(made(all, func(c api.Cell) api.Cell {
		return at(c.X-low.X+p.At.X, c.Y-low.Y+p.At.Y, c.Z-low.Z+p.At.Z)
	})...)
}

// apart returns the least number of steps from a cell of a list to one of another list.
func apart(a, b []api.Cell) int {
	size := func(n int) int { return max(n, -n) }
	n := greatest
	for _, c := range a {
		for _, d := range b {
			n = min(n, size(c.X-d.X)+size(c.Y-d.Y)+size(c.Z-d.Z))
		}
	}
	return n
}

// errorOf returns the error of places of the parts of a nest by the definition.
func errorOf(n mill.Nest, l []mill.Place) api.Errno {
	for i, p := range l {
		there, nearest := placed(n.Parts[i], p), greatest
		for j := range i {
			nearest = min(nearest, apart(there, placed(n.Parts[j], l[j])))
		}
		switch {
		case !isIn(n.Blank, there...):
			return api.ErrRule
		case nearest == 0:
			return api.ErrHit
		case nearest <= n.Gap:
			return api.ErrGap
		}
	}
	return api.OK
}

// placesIn returns the places of a part that are in the blank, in their order.
func placesIn(n mill.Nest, part []api.Cell) []mill.Place {
	var l []mill.Place
	for quarters := range 4 {
		for _, c := range block(n.Blank) {
			if p := (mill.Place{Quarters: quarters, At: c}); isIn(n.Blank, placed(part, p)...) {
				l = append(l, p)
			}
		}
	}
	return l
}

// firstGood returns the first good places by the definition: it tries all lists in their order.
func firstGood(n mill.Nest, chosen ...[]api.Cell) ([]mill.Place, bool) {
	if len(chosen) == len(n.Parts) {
		return nil, true
	}
	part := n.Parts[len(chosen)]
	for _, p := range placesIn(n, part) {
		there := placed(part, p)
		isNear := func(other []api.Cell) bool { return apart(there, other) <= n.Gap }
		if slices.ContainsFunc(chosen, isNear) {
			continue
		}
		if rest, isGood := firstGood(n, append(slices.Clone(chosen), there)...); isGood {
			return append([]mill.Place{p}, rest...), true
		}
	}
	return nil, false
}

// with returns a nest of some parts of another one.
func with(n mill.Nest, parts ...int) mill.Nest {
	n.Parts = made(parts, func(i int) []api.Cell { return n.Parts[i] })
	return n
}

// reasonOf returns the first reason why there are no good places by the definition; its kind is empty if there are.
func reasonOf(n mill.Nest) mill.Reason {
	cells := 0
	for i, part := range n.Parts {
		cells += len(part)
		if len(placesIn(n, part)) == 0 {
			return mill.Reason{Kind: "single", First: i}
		}
	}
	if cells > len(block(n.Blank)) {
		return mill.Reason{Kind: "volume"}
	}
	for i := range n.Parts {
		for j := i + 1; j < len(n.Parts); j++ {
			if _, isGood := firstGood(with(n, i, j)); !isGood {
				return mill.Reason{Kind: "pair", First: i, Second: j}
			}
		}
	}
	if _, isGood := firstGood(n); !isGood {
		return mill.Reason{Kind: "all"}
	}
	return mill.Reason{}
}

// randomNest returns a nest of up to three parts in a small blank.
func randomNest(r *rand.Rand) mill.Nest {
	n := mill.Nest{Blank: randomBox(r, 4, 3, 2), Gap: r.IntN(3)}
	for range r.IntN(4) {
		n.Parts = append(n.Parts, randomSet(r, between(r, 1, 4), randomBox(r, 3, 2, 2)))
	}
	return n
}

// copiedNest returns a nest in new memory.
func copiedNest(n mill.Nest) mill.Nest {
	n.Parts = made(n.Parts, slices.Clone[[]api.Cell])
	return n
}

// faulty is an argument with an error.
type faulty[T any] struct {
	what string
	arg  T
	e    api.Errno
}

// outOf returns numbers that are not from low to high.
func outOf(low, high int) []int { return []int{low - 1, high + 1, least, greatest} }

// badCells returns cells that are none.
func badCells() []api.Cell {
	return []api.Cell{at(1001, 0, 0), at(-1001, 0, 0), at(0, 1001, 0), at(0, -1001, 0), at(0, 0, 1001), at(0, 0, -1001), at(least, 0, 0), at(0, greatest, 0), at(0, 0, least)}
}

// faultySets returns sets of cells with each kind of error.
func faultySets() []faulty[[]api.Cell] {
	l := []faulty[[]api.Cell]{
		{"too many cells", row(4097), api.ErrMany},
		{"too many cells that are none", many(4097, at(0, 0, 1001)), api.ErrMany},
		{"cells in a wrong order", []api.Cell{at(0, 0, 1), at(0, 0, 0)}, api.ErrOrder},
		{"a cell twice", []api.Cell{at(0, 0, 1), at(0, 0, 1)}, api.ErrOrder},
		{"a wrong order before a cell that is none", []api.Cell{at(0, 0, 1), at(0, 0, 0), at(1001, 0, 0)}, api.ErrOrder},
	}
	for _, c := range badCells() {
		l = append(l, faulty[[]api.Cell]{"a cell that is none", []api.Cell{c}, api.ErrRange})
	}
	return l
}

// faultyBlanks returns boxes with each kind of error, and with the first one of two.
func faultyBlanks() []faulty[grid.Box] {
	l := []faulty[grid.Box]{
		{"more cells than a set has", boxOf(at(0, 0, 0), at(16, 15, 15)), api.ErrMany},
		{"the whole grid", boxOf(at(-1000, -1000, -1000), at(1000, 1000, 1000)), api.ErrMany},
	}
	for _, high := range []api.Cell{at(-1, 1, 1), at(1, -1, 1), at(1, 1, -1)} {
		l = append(l, faulty[grid.Box]{"Low above High", boxOf(at(0, 0, 0), high), api.ErrOrder})
	}
	l = append(l, faulty[grid.Box]{"Low above High in a box with many cells", boxOf(at(0, 0, 1), at(1000, 1000, 0)), api.ErrOrder})
	for _, c := range badCells() {
		l = append(l,
			faulty[grid.Box]{"Low that is none", boxOf(c, at(-1000, -1000, -1000)), api.ErrRange},
			faulty[grid.Box]{"High that is none", boxOf(at(1000, 1000, 1000), c), api.ErrRange},
		)
	}
	return l
}

// faultyTools returns tools with each kind of error.
func faultyTools() []faulty[mill.Tool] {
	var l []faulty[mill.Tool]
	for _, kind := range []string{"", "Ball", "END", "end ", "saw", "ballend"} {
		l = append(l, faulty[mill.Tool]{"a kind that is none", mill.Tool{Kind: kind}, api.ErrKind})
		l = append(l, faulty[mill.Tool]{"a kind that is none with a wrong radius", mill.Tool{Kind: kind, Radius: -1}, api.ErrKind})
	}
	for _, radius := range outOf(0, 8) {
		l = append(l, faulty[mill.Tool]{"the radius of a ball", mill.Tool{Kind: "ball", Radius: radius}, api.ErrRange})
		l = append(l, faulty[mill.Tool]{"the radius of an end mill", mill.Tool{Kind: "end", Radius: radius}, api.ErrRange})
	}
	return l
}

// faultyOps returns operations with each kind of error.
func faultyOps() []faulty[mill.Op] {
	var l []faulty[mill.Op]
	for _, f := range faultyTools() {
		l = append(l, faulty[mill.Op]{"a tool: " + f.what, mill.Op{Tool: f.arg}, f.e})
		l = append(l, faulty[mill.Op]{"a tool from nowhere: " + f.what, mill.Op{Tool: f.arg, Dir: 5}, f.e})
	}
	for _, dir := range outOf(0, 4) {
		l = append(l, faulty[mill.Op]{"a direction", op("end", 0, dir), api.ErrRange})
	}
	return l
}

// faultySetups returns setups with each kind of error, and with the first one of two.
func faultySetups() []faulty[mill.Setup] {
	var l []faulty[mill.Setup]
	for _, f := range faultyBlanks() {
		l = append(l, faulty[mill.Setup]{"the blank: " + f.what, mill.Setup{Blank: f.arg, Part: row(4097)}, f.e})
	}
	for _, f := range faultySets() {
		l = append(l, faulty[mill.Setup]{"the part: " + f.what, mill.Setup{Blank: boxOf(at(1, 1, 1), at(2, 2, 2)), Part: f.arg}, f.e})
	}
	for _, c := range []api.Cell{at(-1, 0, 0), at(3, 0, 0), at(0, -1, 0), at(0, 3, 0), at(0, 0, -1), at(0, 0, 2), at(1000, 1000, 1000)} {
		l = append(l, faulty[mill.Setup]{"a part out of the blank", mill.Setup{Blank: blankB(), Part: setOf(at(1, 1, 1), c)}, api.ErrRule})
	}
	return l
}

// faultyPlaces returns places with each kind of error.
func faultyPlaces() []faulty[mill.Place] {
	l := made(badCells(), func(c api.Cell) faulty[mill.Place] {
		return faulty[mill.Place]{"At", mill.Place{At: c}, api.ErrRange}
	})
	for _, quarters := range outOf(0, 3) {
		l = append(l, faulty[mill.Place]{"quarters", mill.Place{Quarters: quarters}, api.ErrRange})
	}
	return l
}

// faultyNests returns nests with each kind of error, and with the first one of two. All of them are too large for a search.
func faultyNests() []faulty[mill.Nest] {
	var l []faulty[mill.Nest]
	cell := []api.Cell{at(0, 0, 0)}
	large := boxOf(at(0, 0, 0), at(9, 9, 9))
	for _, f := range faultyBlanks() {
		l = append(l, faulty[mill.Nest]{"the blank: " + f.what, mill.Nest{Blank: f.arg, Parts: make([][]api.Cell, 65), Gap: -1}, f.e})
	}
	l = append(l, faulty[mill.Nest]{"too many parts", mill.Nest{Blank: large, Parts: many(65, cell), Gap: -1}, api.ErrMany})
	l = append(l, faulty[mill.Nest]{"too many parts without cells", mill.Nest{Blank: large, Parts: make([][]api.Cell, 65)}, api.ErrMany})
	for _, f := range faultySets() {
		l = append(l, faulty[mill.Nest]{"a part: " + f.what, mill.Nest{Blank: large, Parts: [][]api.Cell{cell, f.arg, nil, cell}, Gap: -1}, f.e})
	}
	l = append(l, faulty[mill.Nest]{"a part without cells", mill.Nest{Blank: large, Parts: [][]api.Cell{cell, nil, row(4097), cell}, Gap: -1}, api.ErrEmpty})
	for _, gap := range outOf(0, 64) {
		l = append(l, faulty[mill.Nest]{"the gap", mill.Nest{Blank: large, Parts: many(4, cell), Gap: gap}, api.ErrRange})
	}
	return l
}
