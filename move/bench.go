package move

import (
	"iter"
	"slices"

	"cusp/api"
)

// bench is a case with what is known of its teeth so far: plans and searches ask again and again for the same turns and distances.
type bench struct {
	Case
	turned map[turning]body
	known  map[pairing]int
}

// turning is a tooth that is turned.
type turning struct {
	tooth, turn int
}

// pairing is two teeth that are turned, and the shift of the second one as the first one sees it: their distance depends on nothing else.
type pairing struct {
	first, second turning
	by            api.Cell
}

// benchOf returns the bench of a case, or the first error of the case.
func benchOf(c Case) (bench, api.Errno) {
	if e := c.checkParts(); e != api.OK {
		return bench{}, e
	}
	b := bench{Case: c, turned: map[turning]body{}, known: map[pairing]int{}}
	if e := first(b.checkState(c.from()), b.checkState(c.to())); e != api.OK {
		return bench{}, e
	}
	return b, api.OK
}

// benchWith returns the bench of a case, or the first error of the case and of states.
func benchWith(c Case, states ...[]Place) (bench, api.Errno) {
	b, e := benchOf(c)
	if e != api.OK {
		return bench{}, e
	}
	for _, s := range states {
		if e := b.checkState(s); e != api.OK {
			return bench{}, e
		}
	}
	return b, api.OK
}

// from returns the places From of all teeth.
func (c Case) from() []Place { return listOf(c.Teeth, func(t Tooth) Place { return t.From }) }

// to returns the places To of all teeth.
func (c Case) to() []Place { return listOf(c.Teeth, func(t Tooth) Place { return t.To }) }

// pairs visits the pairs of teeth, the first one before the second one, ascending.
func (c Case) pairs() iter.Seq2[int, int] {
	return func(yield func(int, int) bool) {
		for a := range c.Teeth {
			for b := a + 1; b < len(c.Teeth); b++ {
				if !yield(a, b) {
					return
				}
			}
		}
	}
}

// body returns a tooth at a place.
func (b bench) body(tooth int, p Place) body {
	key := turning{tooth, p.Turn}
	there, known := b.turned[key]
	if !known {
		there = b.Teeth[tooth].turnedBody(p.Turn)
		b.turned[key] = there
	}
	return there.shifted(p.At)
}

// apart returns the distance of two teeth in a state, or some number above the gap and 1 if it is above it.
func (b bench) apart(s []Place, first, second int) int {
	p, q := s[first], s[second]
	key := pairing{turning{first, p.Turn}, turning{second, q.Turn}, minus(q.At, p.At)}
	d, known := b.known[key]
	if !known {
		d = b.body(first, p).apart(b.body(second, q), b.Gap+1)
		b.known[key] = d
	}
	return d
}

// checkTooth returns the first error of a tooth in a state, as far as the state tells places up to it, or OK.
func (b bench) checkTooth(s []Place, tooth int) api.Errno {
	p := s[tooth]
	if e := p.check(); e != api.OK {
		return e
	}
	if !b.body(tooth, p).isIn(b.Low, b.High) {
		return api.ErrRange
	}
	for before := range tooth {
		d := b.apart(s, before, tooth)
		if e := first(when(d == 0, api.ErrHit), when(d <= b.Gap, api.ErrGap)); e != api.OK {
			return e
		}
	}
	return api.OK
}

// checkState returns the first error of a state, or OK.
func (b bench) checkState(s []Place) api.Errno {
	if len(s) != len(b.Teeth) {
		return api.ErrShape
	}
	for tooth := range s {
		if e := b.checkTooth(s, tooth); e != api.OK {
			return e
		}
	}
	return api.OK
}

// CheckCase returns the first error of a case, or OK.
func CheckCase(c Case) api.Errno {
	_, e := benchOf(c)
	return e
}

// Cells returns the cells of a tooth at a place.
func Cells(c Case, tooth int, p Place) ([]api.Cell, api.Errno) {
	b, e := benchOf(c)
	if e := first(e, c.checkNumber(tooth), p.check()); e != api.OK {
		return nil, e
	}
	return slices.Collect(b.body(tooth, p).all()), api.OK
}

// CheckState returns the first error of a case and of a state, or OK.
func CheckState(c Case, s []Place) api.Errno {
	_, e := benchWith(c, s)
	return e
}

// Distance returns the distance of two teeth in a state.
func Distance(c Case, s []Place, a, b int) (int, api.Errno) {
	on, e := benchWith(c, s)
	if e := first(e, c.checkNumber(a), c.checkNumber(b), when(a == b, api.ErrTwice)); e != api.OK {
		return 0, e
	}
	return on.body(a, s[a]).distance(on.body(b, s[b])), api.OK
}
