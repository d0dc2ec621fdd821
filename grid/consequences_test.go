package grid_test

import (
	"math/big"
	"math/rand/v2"
	"slices"
	"testing"

	"cusp/api"
	"cusp/grid"
)

// within reports whether a number is in a span.
func within(t *testing.T, x api.Rat, s api.Span) bool {
	low := fine[int](t)(grid.Order(s.Low, x))
	high := fine[int](t)(grid.Order(x, s.High))
	return low <= 0 && high <= 0
}

// randomSpan returns a span and a number of it.
func randomSpan(r *rand.Rand) (api.Span, api.Rat) {
	low, size := randomNumber(r, 4), randomNumber(r, 4)
	size.Abs(size)
	high := new(big.Rat).Add(low, size)
	part := big.NewRat(r.Int64N(5), 4)
	inside := new(big.Rat).Add(low, part.Mul(part, size))
	return span(ratOf(low), ratOf(high)), ratOf(inside)
}

func TestNumbersOfSpans(t *testing.T) {
	r := dice()
	ones := []func(a, b api.Rat) (api.Rat, api.Errno){grid.Add, grid.Sub, grid.Mul, grid.Div}
	for range 300 {
		a, x := randomSpan(r)
		b, y := randomSpan(r)
		for i, o := range spanOperations() {
			s, e := o.of(a, b)
			if e == api.ErrZero && o.what == "Over" && within(t, "0", b) {
				continue
			}
			same(t, o.what, e, api.OK)
			if z := fine[api.Rat](t)(ones[i](x, y)); !within(t, z, s) {
				t.Errorf("%s: %s of %s and %s is not in the span %v", o.what, z, x, y, s)
			}
		}
		square := fine[api.Rat](t)(grid.Mul(x, x))
		absolute := x
		if fine[int](t)(grid.Order(x, "0")) < 0 {
			absolute = fine[api.Rat](t)(grid.Sub("0", x))
		}
		same(t, "the root of a square", fine[api.Span](t)(grid.Root(square)), span(absolute, absolute))
		root := fine[api.Span](t)(grid.Root(absolute))
		if squares := fine[api.Span](t)(grid.Times(root, root)); !within(t, absolute, squares) {
			t.Errorf("Root: the squares of %v do not include %s", root, absolute)
		}
	}
}

func TestSumOfShares(t *testing.T) {
	r := dice()
	for range 300 {
		weights := make([]int, 1+r.IntN(256))
		for i := range weights {
			weights[i] = r.IntN([]int{2, 10, api.MaxNumber + 1}[r.IntN(3)])
		}
		weights[0]++
		total := r.IntN([]int{1, 100, api.MaxNumber}[r.IntN(3)] + 1)
		sum, all := 0, 0
		for _, w := range weights {
			all += w
		}
		for i, share := range fine[[]int](t)(grid.Shares(total, weights)) {
			sum += share
			if low := total * weights[i] / all; share != low && share != low+1 {
				t.Errorf("Shares: %d of %d", share, low)
			}
		}
		same(t, "the sum of shares", sum, total)
	}
}

func TestDrawnOrders(t *testing.T) {
	r := dice()
	for range 100 {
		n := r.IntN(257)
		l := fine[[]int](t)(grid.Draw(1+r.IntN(2147483562), n))
		slices.Sort(l)
		sameList(t, "the elements of a drawn order", l, ascending(n))
	}
}

func TestSplitSets(t *testing.T) {
	r := dice()
	for range 50 {
		a, b := scattered(r, 3, 3), scattered(r, 3, 3)
		both, alone := fine[[]api.Cell](t)(grid.Cut(a, b)), fine[[]api.Cell](t)(grid.Less(a, b))
		sameList(t, "what is common and what is not", fine[[]api.Cell](t)(grid.Union(both, alone)), a)
		sameList(t, "Cut", fine[[]api.Cell](t)(grid.Cut(both, alone)), nil)
		sameList(t, "Cut", both, fine[[]api.Cell](t)(grid.Cut(b, a)))
		sameList(t, "Union", fine[[]api.Cell](t)(grid.Union(a, b)), fine[[]api.Cell](t)(grid.Union(b, a)))
	}
}

func TestGroupOfTurns(t *testing.T) {
	twice := func(m, n int) int { return fine[int](t)(grid.Twice(m, n)) }
	for m := range 24 {
		same(t, "first 0", twice(0, m), m)
		same(t, "then 0", twice(m, 0), m)
		inverses := 0
		for n := range 24 {
			if twice(m, n) == 0 {
				inverses++
				same(t, "the inverse on the other side", twice(n, m), 0)
			}
			for k := range 24 {
				same(t, "three turns", twice(twice(m, n), k), twice(m, twice(n, k)))
			}
		}
		same(t, "inverses", inverses, 1)
	}
}

// measured is what moves keep.
type measured struct {
	count                             grid.Count
	apart, parts, cavities, tunnels   int
	shell, partOfMostCells, grownOnce int
}

func measure(t *testing.T, a, b []api.Cell) measured {
	parts := fine[[][]api.Cell](t)(grid.Parts(a))
	most := 0
	for _, p := range parts {
		most = max(most, len(p))
	}
	return measured{
		count:           fine[grid.Count](t)(grid.Counts(a)),
		apart:           fine[int](t)(grid.Apart(a, b)),
		parts:           len(parts),
		cavities:        len(fine[[][]api.Cell](t)(grid.Cavities(a))),
		tunnels:         fine[int](t)(grid.Tunnels(a)),
		shell:           len(fine[[]api.Cell](t)(grid.Shell(a))),
		partOfMostCells: most,
		grownOnce:       len(fine[[]api.Cell](t)(grid.Grow(a, 1))),
	}
}

func TestMovesKeep(t *testing.T) {
	r := dice()
	for i := range 12 {
		a, b := append(scattered(r, 2, 2), at(4, 0, 0)), scattered(r, 2, 4)
		b = ordered(append(fine[[]api.Cell](t)(grid.Shift(b, at(7, -5, 3*i))), at(9, 9, 9)))
		want := measure(t, a, b)
		about := at(r.IntN(20), r.IntN(20), r.IntN(20))
		for n := range 24 {
			c, d := fine[[]api.Cell](t)(grid.Turn(a, n, about)), fine[[]api.Cell](t)(grid.Turn(b, n, about))
			same(t, "Turn", measure(t, c, d), want)
			m := r.IntN(24)
			again := fine[[]api.Cell](t)(grid.Turn(c, m, about))
			sameList(t, "Turn by Twice", fine[[]api.Cell](t)(grid.Turn(a, fine[int](t)(grid.Twice(n, m)), about)), again)
		}
		for axis := range 3 {
			c, d := fine[[]api.Cell](t)(grid.Mirror(a, axis, i)), fine[[]api.Cell](t)(grid.Mirror(b, axis, i))
			same(t, "Mirror", measure(t, c, d), want)
			sameList(t, "Mirror twice", fine[[]api.Cell](t)(grid.Mirror(c, axis, i)), a)
		}
	}
}

func TestFacesAndTunnels(t *testing.T) {
	r := dice()
	for i := range 200 {
		l := scattered(r, 1+i%3, 2+i%4)
		c := fine[grid.Count](t)(grid.Counts(l))
		same(t, "the faces, cell by cell", c.Surface+2*(c.Faces-c.Surface), 6*len(l))
		same(t, "Euler's number", c.Euler, c.Corners-c.Edges+c.Faces-c.Cells)
		if n := fine[int](t)(grid.Tunnels(l)); n < 0 {
			t.Errorf("%d tunnels", n)
		}
	}
}

func TestGrownSets(t *testing.T) {
	r := dice()
	for range 30 {
		l := append(scattered(r, 3, 20), at(4, 4, 4))
		n := r.IntN(4)
		more := fine[[]api.Cell](t)(grid.Grow(l, n))
		for _, c := range block(t, at(-7, -7, -7), at(7, 7, 7)) {
			apart := fine[int](t)(grid.Apart(l, []api.Cell{c}))
			same(t, "what is reached", slices.Contains(more, c), apart <= n)
		}
		again := fine[[]api.Cell](t)(grid.Shrink(more, n))
		sameList(t, "what is lost by growing and shrinking", fine[[]api.Cell](t)(grid.Less(l, again)), nil)
		back := fine[[]api.Cell](t)(grid.Grow(fine[[]api.Cell](t)(grid.Shrink(l, n)), n))
		sameList(t, "what is won by shrinking and growing", fine[[]api.Cell](t)(grid.Less(back, l)), nil)
	}
}

func TestPathsAndDistances(t *testing.T) {
	r := dice()
	for range 200 {
		l := append(scattered(r, 3, 2), at(4, 0, 0))
		from, to := l[r.IntN(len(l))], l[r.IntN(len(l))]
		path, e := grid.Path(l, from, to)
		if e == api.ErrNone {
			continue
		}
		same(t, "Path", e, api.OK)
		if len(path)-1 < distance(from, to) {
			t.Fatalf("a path of %d cells for the distance %d", len(path), distance(from, to))
		}
		same(t, "the first cell", path[0], from)
		same(t, "the last cell", path[len(path)-1], to)
		for i, c := range path {
			if !slices.Contains(l, c) || i > 0 && !neighbours(path[i-1], c) {
				t.Errorf("%v is not on a path", c)
			}
		}
		back := fine[[]api.Cell](t)(grid.Path(l, to, from))
		same(t, "the path back", len(back), len(path))
	}
}
