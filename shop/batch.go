package shop

import (
	"cmp"
	"slices"

	"cusp/api"
)

// CheckBatches returns the first error of batches, or OK.
func CheckBatches(l []Batch) api.Errno {
	if len(l) > api.MaxList {
		return api.ErrMany
	}
	seen := names{}
	for _, b := range l {
		e := first(
			checkName(b.Name),
			checkName(b.Kind),
			seen.add(b.Name),
			within(b.Grams, 0, api.MaxNumber),
			within(b.Until, 0, api.MaxDay),
		)
		if e != api.OK {
			return e
		}
	}
	return api.OK
}

// ordered returns the numbers of the elements of a list, ordered by a key, of equal ones in the order of the list.
func ordered[T any, K cmp.Ordered](l []T, key func(T) K) []int {
	order := make([]int, len(l))
	for i := range order {
		order[i] = i
	}
	slices.SortStableFunc(order, func(i, k int) int { return cmp.Compare(key(l[i]), key(l[k])) })
	return order
}

// isFor reports whether a batch is of a kind, and may be used on a day.
func (b Batch) isFor(kind string, day int) bool { return b.Kind == kind && b.Until >= day }

// taken returns what is taken of batches without errors, and how much is not there.
func taken(l []Batch, kind string, grams, day int) ([]Take, int) {
	var takes []Take
	for _, i := range ordered(l, func(b Batch) int { return b.Until }) {
		part := min(l[i].Grams, grams)
		if part > 0 && l[i].isFor(kind, day) {
			takes = append(takes, Take{Batch: i, Grams: part})
			grams -= part
		}
	}
	return takes, grams
}

// Taken returns what is taken of the batches of a kind.
func Taken(l []Batch, kind string, grams, day int) ([]Take, api.Errno) {
	e := first(CheckBatches(l), checkName(kind), within(grams, 0, api.MaxNumber), within(day, 0, api.MaxDay))
	if e != api.OK {
		return nil, e
	}
	takes, missing := taken(l, kind, grams, day)
	if missing > 0 {
		return nil, api.ErrStock
	}
	return takes, api.OK
}
