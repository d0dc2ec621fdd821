package bite_test

import (
	"slices"
	"testing"

	"cusp/api"
	"cusp/bite"
	"cusp/grid"
)

func TestBackwardStates(t *testing.T) {
	r := dice()
	for range 500 {
		b := randomBite(r)
		back := fine[bite.Bite](t)(bite.Backward(b))
		states := fine[[]int](t)(bite.States(b))
		slices.Reverse(states)
		same(t, "the states backwards", fine[[]int](t)(bite.States(back)), states)
		same(t, "the marks backwards", fine[[]bite.Spot](t)(bite.Marks(back)), fine[[]bite.Spot](t)(bite.Marks(b)))
		same(t, "backwards twice", fine[bite.Bite](t)(bite.Backward(back)), b)
	}
}

func TestShiftedStates(t *testing.T) {
	r := dice()
	for range 500 {
		b, by := randomBite(r), at(between(r, -900, 900), between(r, -900, 900), between(r, -900, 900))
		there := fine[bite.Bite](t)(bite.Shifted(b, by))
		same(t, "the states of both sets moved", fine[[]int](t)(bite.States(there)), fine[[]int](t)(bite.States(b)))
		for i := range b.Path {
			here := fine[[]api.Cell](t)(bite.Place(b, i))
			same(t, "what is placed of both sets moved", fine[[]api.Cell](t)(bite.Place(there, i)), fine[[]api.Cell](t)(grid.Shift(here, by)))
		}
		same(t, "moved there and back", fine[bite.Bite](t)(bite.Shifted(there, at(-by.X, -by.Y, -by.Z))), b)
	}
}

func TestFlippedStates(t *testing.T) {
	r := dice()
	for range 500 {
		b := randomBite(r)
		flipped := fine[bite.Bite](t)(bite.Flipped(b))
		same(t, "the states upside down", fine[[]int](t)(bite.States(flipped)), fine[[]int](t)(bite.States(b)))
		for i := range b.Path {
			same(t, "the number of hits upside down", len(fine[[]api.Cell](t)(bite.Hits(flipped, i))), len(fine[[]api.Cell](t)(bite.Hits(b, i))))
			n, e := bite.Close(b, i)
			m, e2 := bite.Close(flipped, i)
			same(t, "Close upside down", m, n)
			same(t, "the error of Close upside down", e2, e)
		}
		same(t, "upside down twice", fine[bite.Bite](t)(bite.Flipped(flipped)), b)
	}
}

// TestContactsAfterClose goes up by Close: lower cells are right below upper ones then, and a further step hits these.
func TestContactsAfterClose(t *testing.T) {
	r := dice()
	closed := 0
	for range 1000 {
		b := randomBite(r)
		n, e := bite.Close(b, 0)
		if e != api.OK {
			continue
		}
		closed++
		b.Path = b.Path[:1]
		for range n + 1 {
			b.Path = append(b.Path, plus(b.Path[len(b.Path)-1], at(0, 0, 1)))
		}
		same(t, "the first hit on the way up", fine[int](t)(bite.First(b, 2)), n+1)
		contacts := fine[[]api.Cell](t)(bite.Contacts(b, n))
		hits := fine[[]api.Cell](t)(bite.Hits(b, n+1))
		same(t, "some hits of the next step", len(hits) > 0, true)
		same(t, "the hits of the next step that are contacts", common(hits, contacts), hits)
		below := fine[[]api.Cell](t)(bite.Place(b, n))
		for _, c := range hits {
			same(t, "a lower cell right below", slices.Contains(below, plus(c, at(0, 0, -1))), true)
		}
		columns := fine[[]bite.Column](t)(bite.Clearance(b, 0))
		gap := slices.MinFunc(columns, func(a, b bite.Column) int { return a.Gap - b.Gap }).Gap
		same(t, "the least clearance", gap, n)
	}
	same(t, "enough that close", closed > 300, true)
}

func TestContactsInSupport(t *testing.T) {
	r := dice()
	for range 500 {
		b := randomBite(r)
		for i := range b.Path {
			if stateOf(b, i) != 1 {
				continue
			}
			var points [][2]int
			for _, c := range fine[[]api.Cell](t)(bite.Contacts(b, i)) {
				points = append(points, [2]int{c.X, c.Y})
				held := fine[int](t)(bite.Holds(b, i, [2]int{c.X, c.Y}))
				same(t, "a contact outside of the support", held < 0, false)
			}
			corners := fine[[][2]int](t)(bite.Support(b, i))
			isSupport(t, corners, points)
			for _, c := range corners {
				same(t, "Holds of a corner", fine[int](t)(bite.Holds(b, i, c)), 0)
			}
		}
	}
}

// TestWaysThereAndBack has ways in boxes with many hits: they are paths without hits, and as short backwards.
func TestWaysThereAndBack(t *testing.T) {
	r := dice()
	found := 0
	for range 300 {
		box := boxOf(at(0, 0, 0), at(between(r, 2, 11), between(r, 2, 9), between(r, 0, 5)))
		b := single(randomSet(r, 300, box.Low, box.High), randomSet(r, 2, at(-1, -1, 0), at(1, 1, 1)))
		from, to := randomCellOf(r, box), randomCellOf(r, box)
		way, e := bite.Way(b, box, from, to)
		back, e2 := bite.Way(b, box, to, from)
		same(t, "the error of a way backwards", e2, e)
		same(t, "the length of a way backwards", len(back), len(way))
		if e != api.OK {
			continue
		}
		found++
		same(t, "the first position", way[0], from)
		same(t, "the last position", way[len(way)-1], to)
		same(t, "the error of a way as a path", bite.CheckPath(way), api.OK)
		b.Path = way
		for _, state := range fine[[]int](t)(bite.States(b)) {
			same(t, "a hit on a way", state == 2, false)
		}
		for _, c := range way {
			isIn := 0 <= c.X && c.X <= box.High.X && 0 <= c.Y && c.Y <= box.High.Y && 0 <= c.Z && c.Z <= box.High.Z
			same(t, "a position in the box", isIn, true)
		}
	}
	same(t, "enough ways", found > 100, true)
}

func randomCellOf(r interface{ IntN(int) int }, box grid.Box) api.Cell {
	return at(r.IntN(box.High.X+1), r.IntN(box.High.Y+1), r.IntN(box.High.Z+1))
}

func TestReadAsPrinted(t *testing.T) {
	r := dice()
	for range 500 {
		size := []int{1, 20, 990}[r.IntN(3)]
		path := randomPath(r, between(r, 1, 256), at(between(r, -size, size), between(r, -size, size), between(r, -size, size)))
		if bite.CheckPath(path) != api.OK {
			continue
		}
		text, e := bite.PrintPath(path)
		if e == api.ErrLong {
			continue
		}
		same(t, "the error of PrintPath", e, api.OK)
		same(t, "ParsePath of what is printed", fine[[]api.Cell](t)(parsed(t, text)), path)
		// With a byte changed, a text is that of a path, or it cannot be read.
		bytes := []byte(text)
		bytes[r.IntN(len(bytes))] = " ,01-9t"[r.IntN(7)]
		other, word, e := bite.ParsePath(string(bytes))
		if e != api.OK {
			refused(t, "ParsePath", other, e, e)
			same(t, "a word beside another error", word > 0, e == api.ErrSyntax)
			continue
		}
		same(t, "PrintPath of what is read", fine[string](t)(bite.PrintPath(other)), string(bytes))
	}
}
