package bite_test

import (
	"testing"

	"cusp/api"
	"cusp/bite"
)

func TestChapterContacts(t *testing.T) {
	b := chapter()
	same(t, "Contacts", fine[[]api.Cell](t)(bite.Contacts(b, 3)), []api.Cell{at(3, 0, 5)})
	same(t, "Contacts apart", fine[[]api.Cell](t)(bite.Contacts(b, 0)), nil)
	same(t, "Hits", fine[[]api.Cell](t)(bite.Hits(b, 4)), []api.Cell{at(3, 0, 5)})
	same(t, "Hits of a contact", fine[[]api.Cell](t)(bite.Hits(b, 3)), nil)
	same(t, "States", fine[[]int](t)(bite.States(b)), []int{0, 0, 0, 1, 2})
	same(t, "First of 0", fine[int](t)(bite.First(b, 0)), 0)
	same(t, "First of 1", fine[int](t)(bite.First(b, 1)), 3)
	same(t, "First of 2", fine[int](t)(bite.First(b, 2)), 4)
	same(t, "Marks", fine[[]bite.Spot](t)(bite.Marks(b)), []bite.Spot{{At: at(3, 0, 5), Count: 1}})
}

// TestNeighbours has one cell of each set: they have contact if they have a face in common.
func TestNeighbours(t *testing.T) {
	for n := range 5 * 5 * 5 {
		by := at(n/25-2, n/5%5-2, n%5-2)
		far := max(by.X, -by.X) + max(by.Y, -by.Y) + max(by.Z, -by.Z)
		want := map[int]int{0: 2, 1: 1}[far]
		for _, upper := range []api.Cell{at(0, 0, 0), at(-998, 998, 7)} {
			b := single([]api.Cell{upper}, []api.Cell{plus(upper, by)})
			same(t, "States of a cell at "+short(by), fine[[]int](t)(bite.States(b)), []int{want})
			b.Lower, b.Path = []api.Cell{upper}, []api.Cell{by}
			same(t, "States of a cell shifted by "+short(by), fine[[]int](t)(bite.States(b)), []int{want})
		}
	}
	// A neighbour at the end of the grid.
	b := single([]api.Cell{at(1000, 1000, 1000)}, []api.Cell{at(1000, 1000, 999)})
	same(t, "Contacts at the end of the grid", fine[[]api.Cell](t)(bite.Contacts(b, 0)), b.Upper)
	b = single([]api.Cell{at(-1000, -1000, -1000)}, []api.Cell{at(-1000, -999, -1000)})
	same(t, "Contacts at the beginning of the grid", fine[[]api.Cell](t)(bite.Contacts(b, 0)), b.Upper)
}

// TestContactsByDefinition compares all positions of many bites with what the definitions say.
func TestContactsByDefinition(t *testing.T) {
	r := dice()
	met := [3]int{}
	for range 1500 {
		b := randomBite(r)
		states := make([]int, len(b.Path))
		counts := map[api.Cell]int{}
		for i := range b.Path {
			states[i] = stateOf(b, i)
			met[states[i]]++
			same(t, "Hits of "+short(b), fine[[]api.Cell](t)(bite.Hits(b, i)), common(b.Upper, placed(b, i)))
			contacts, e := bite.Contacts(b, i)
			if states[i] == 2 {
				refused(t, "Contacts of a hit", contacts, e, api.ErrHit)
				continue
			}
			want := touching(b.Upper, placed(b, i))
			same(t, "Contacts of "+short(b), fine[[]api.Cell](t)(contacts, e), want)
			for _, c := range want {
				counts[c]++
			}
		}
		same(t, "States of "+short(b), fine[[]int](t)(bite.States(b)), states)
		var marks []bite.Spot
		for _, c := range b.Upper {
			if counts[c] > 0 {
				marks = append(marks, bite.Spot{At: c, Count: counts[c]})
			}
		}
		same(t, "Marks of "+short(b), fine[[]bite.Spot](t)(bite.Marks(b)), marks)
	}
	for state, n := range met {
		if n < 300 {
			t.Errorf("only %d positions with the state %d", n, state)
		}
	}
}

func TestFirstByDefinition(t *testing.T) {
	r := dice()
	for range 1000 {
		b := randomBite(r)
		for state := range 3 {
			want := -1
			for i := len(b.Path) - 1; i >= 0; i-- {
				if stateOf(b, i) >= state {
					want = i
				}
			}
			got, e := bite.First(b, state)
			if want < 0 {
				refused(t, "First of a state that is none", got, e, api.ErrNone)
			} else {
				same(t, "First", fine[int](t)(got, e), want)
			}
		}
	}
}

func TestFirstOfHits(t *testing.T) {
	// A hit is at least a contact.
	b := single(row(2), row(1))
	same(t, "First of 1 in a hit", fine[int](t)(bite.First(b, 1)), 0)
	b = single([]api.Cell{at(0, 0, 5)}, row(1))
	n, e := bite.First(b, 1)
	refused(t, "First of 1, apart", n, e, api.ErrNone)
	b = single([]api.Cell{at(0, 0, 1)}, row(1))
	n, e = bite.First(b, 2)
	refused(t, "First of 2 in a contact", n, e, api.ErrNone)
	for _, state := range []int{-1, 3, least, greatest} {
		n, e := bite.First(chapter(), state)
		refused(t, "First of no state", n, e, api.ErrRange)
	}
}

// TestMarksOfVisits comes to the same position several times: it counts each time. Positions with hits count for none.
func TestMarksOfVisits(t *testing.T) {
	b := bite.Bite{
		Upper: []api.Cell{at(0, 0, 2), at(1, 0, 3), at(5, 0, 2)},
		Lower: []api.Cell{at(0, 0, 0), at(1, 0, 0)},
		Path:  []api.Cell{at(0, 0, 0), at(0, 0, 1), at(0, 0, 2), at(0, 0, 1), at(1, 0, 1), at(1, 0, 2)},
	}
	// At 1 0 2 the lower cells are 1 0 2 and 2 0 2: beside 0 0 2, and below 1 0 3.
	same(t, "States", fine[[]int](t)(bite.States(b)), []int{0, 1, 2, 1, 0, 1})
	same(t, "Marks", fine[[]bite.Spot](t)(bite.Marks(b)), []bite.Spot{{At: at(0, 0, 2), Count: 3}, {At: at(1, 0, 3), Count: 1}})
	b.Path = swing(256)
	same(t, "Marks of a long path", fine[[]bite.Spot](t)(bite.Marks(b)), []bite.Spot{{At: at(0, 0, 2), Count: 128}})
	b.Path = []api.Cell{at(0, 0, 2)}
	same(t, "Marks of a hit", fine[[]bite.Spot](t)(bite.Marks(b)), nil)
}

func TestLargestBite(t *testing.T) {
	b := bite.Bite{Path: swing(256)}
	for n := range 4096 {
		c := at(n/64, n%64, 2)
		b.Upper = append(b.Upper, c)
		b.Lower = append(b.Lower, at(c.X, c.Y, 0))
	}
	states := fine[[]int](t)(bite.States(b))
	marks := fine[[]bite.Spot](t)(bite.Marks(b))
	same(t, "the number of marks", len(marks), 4096)
	for i, state := range states {
		same(t, "the state", state, i%2)
	}
	for i, m := range marks {
		same(t, "a mark", m, bite.Spot{At: b.Upper[i], Count: 128})
	}
	same(t, "the number of contacts", len(fine[[]api.Cell](t)(bite.Contacts(b, 255))), 4096)
}

func TestContactErrors(t *testing.T) {
	for _, x := range faultyBites() {
		for _, n := range []int{0, -1} {
			l, e := bite.Hits(x.b, n)
			refused(t, "Hits of "+x.what, l, e, x.e)
			l, e = bite.Contacts(x.b, n)
			refused(t, "Contacts of "+x.what, l, e, x.e)
			m, e := bite.First(x.b, n)
			refused(t, "First of "+x.what, m, e, x.e)
		}
		states, e := bite.States(x.b)
		refused(t, "States of "+x.what, states, e, x.e)
		marks, e := bite.Marks(x.b)
		refused(t, "Marks of "+x.what, marks, e, x.e)
	}
	for _, n := range faultyPositions() {
		l, e := bite.Hits(chapter(), n)
		refused(t, "Hits of no position", l, e, api.ErrUnknown)
		l, e = bite.Contacts(chapter(), n)
		refused(t, "Contacts of no position", l, e, api.ErrUnknown)
	}
}
