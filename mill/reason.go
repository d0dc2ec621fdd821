package mill

import (
	"slices"

	"cusp/api"
)

// single returns the reason that a part is at no place in the blank, if it holds.
func (t table) single() (Reason, bool) {
	i := slices.IndexFunc(t.spots, func(l []spot) bool { return len(l) == 0 })
	return Reason{Kind: "single", First: i}, i >= 0
}

// volume returns the reason that the parts have more cells than the blank, if it holds.
func (t table) volume() (Reason, bool) {
	return Reason{Kind: "volume"}, t.cells() > volume(t.Blank)
}

// pair returns the reason that two parts have no good places by themselves, if it holds.
func (t table) pair() (Reason, bool) {
	for i, spots := range t.spots {
		for j := i + 1; j < len(t.spots); j++ {
			if _, isFound := search(spots, t.spots[j]); !isFound {
				return Reason{"pair", i, j}, true
			}
		}
	}
	return Reason{}, false
}

// all returns the reason that there are no good places, if it holds.
func (t table) all() (Reason, bool) {
	_, isFound := search(t.spots...)
	return Reason{Kind: "all"}, !isFound
}

// firstReason returns the first reason that holds. A later one is not asked for.
func firstReason(reasons ...func() (Reason, bool)) (Reason, api.Errno) {
	for _, reason := range reasons {
		if r, holds := reason(); holds {
			return r, api.OK
		}
	}
	return Reason{}, api.ErrNone
}

// why returns the first reason why the parts cannot be nested.
func (t table) why() (Reason, api.Errno) {
	return firstReason(t.single, t.volume, t.pair, t.all)
}

// Why returns why parts cannot be nested.
func Why(n Nest) (Reason, api.Errno) {
	t, e := tableOf(n)
	if e != api.OK {
		return Reason{}, e
	}
	return t.why()
}

// CheckWhy returns OK for a reason that holds.
func CheckWhy(n Nest, r Reason) api.Errno {
	t, e := tableOf(n)
	names := []string{"single", "volume", "pair", "all"}
	if e := first(e, when(!slices.Contains(names, r.Kind), api.ErrKind)); e != api.OK {
		return e
	}
	why, e := t.why()
	return when(e != api.OK || why != r, api.ErrProof)
}
