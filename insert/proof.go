package insert

import (
	"cmp"
	"iter"
	"slices"

	"cusp/api"
	"cusp/exact"
	"cusp/grid"
)

// mostOfProof is the greatest number of walls of a proof.
const mostOfProof = 3

// choices visits the lists of so many ascending numbers below n.
func choices(n, size int) iter.Seq[[]int] {
	return func(yield func([]int) bool) {
		var choose func(chosen []int, from int) bool
		choose = func(chosen []int, from int) bool {
			if len(chosen) == size {
				return yield(slices.Clone(chosen))
			}
			for i := from; i < n; i++ {
				if !choose(append(chosen, i), i+1) {
					return false
				}
			}
			return true
		}
		choose(nil, 0)
	}
}

// extent returns the sum of X and Y of a vector, without their signs.
func extent(v api.Cell) int { return max(v.X, -v.X) + max(v.Y, -v.Y) }

// balance returns the weights with which X and Y of one to three walls may add up to 0: if there are such weights above 0, they are multiples of these.
// Three walls whose X and Y are on one line are left out: one or two of them do the same.
func balance(walls []api.Cell) []int {
	switch len(walls) {
	case 1:
		return []int{1}
	case 2:
		return []int{extent(walls[1]), extent(walls[0])}
	default:
		a, b, c := walls[0], walls[1], walls[2]
		weights := []int{cross(b, c).Z, cross(c, a).Z, cross(a, b).Z}
		if weights[0] < 0 {
			return []int{-weights[0], -weights[1], -weights[2]}
		}
		return weights
	}
}

// isProof reports whether walls with weights prove that no tilt is permitted.
func isProof(walls []api.Cell, weights []int) bool {
	weighted := make([]api.Cell, len(walls))
	for i, w := range walls {
		if weights[i] <= 0 {
			return false
		}
		weighted[i] = times(weights[i], w)
	}
	total := sum(plus, api.Cell{}, weighted...)
	return total.X == 0 && total.Y == 0 && total.Z < 0
}

// picked returns the elements with some numbers.
func picked[T any](l []T, numbers []int) []T {
	out := make([]T, len(numbers))
	for i, n := range numbers {
		out[i] = l[n]
	}
	return out
}

// refutation returns a proof that walls permit no tilt; it is empty if there is none.
func refutation(walls []api.Cell) Proof {
	var p Proof
search:
	for size := range mostOfProof {
		for numbers := range choices(len(walls), size+1) {
			chosen := picked(walls, numbers)
			weights := balance(chosen)
			if !isProof(chosen, weights) {
				continue
			}
			for i, n := range numbers {
				weight, _ := grid.Of(weights[i], 1)
				p.Walls, p.Weights = append(p.Walls, n), append(p.Weights, weight)
			}
			break search
		}
	}
	return p
}

// Refute returns a proof that no tilt is permitted.
func Refute(walls []api.Cell, steep int) (Proof, api.Errno) {
	if e := first(CheckWalls(walls), checkSteep(steep)); e != api.OK {
		return Proof{}, e
	}
	p := refutation(joined(steep, walls))
	if len(p.Walls) == 0 {
		return Proof{}, api.ErrNone
	}
	return p, api.OK
}

// sign returns the sign of a coordinate of the sum of the walls of a proof, each one multiplied by its weight.
func (p Proof) sign(walls []api.Cell, coordinate func(api.Cell) int) int {
	var terms []exact.Term
	for i, n := range p.Walls {
		terms = append(terms, exact.Term{Factor: coordinate(walls[n]), Number: p.Weights[i]})
	}
	return exact.Sign(terms...)
}

// CheckRefute returns OK for a proof that no tilt is permitted.
func CheckRefute(walls []api.Cell, steep int, p Proof) api.Errno {
	if e := first(CheckWalls(walls), checkSteep(steep)); e != api.OK {
		return e
	}
	all := joined(steep, walls)
	if e := p.check(len(all)); e != api.OK {
		return e
	}
	x := p.sign(all, func(w api.Cell) int { return w.X })
	y := p.sign(all, func(w api.Cell) int { return w.Y })
	z := p.sign(all, func(w api.Cell) int { return w.Z })
	if x != 0 || y != 0 || z >= 0 {
		return api.ErrProof
	}
	return api.OK
}

// members returns the numbers of the groups of a set, which is a number with a bit for each group.
func members(set int) []int {
	var l []int
	for n := range MaxGroups {
		if set>>n&1 == 1 {
			l = append(l, n)
		}
	}
	return l
}

// Conflict returns the first of the smallest sets of groups that permit no common tilt.
func Conflict(groups [][]api.Cell, steep int) ([]int, api.Errno) {
	if e := first(checkGroups(groups), checkSteep(steep)); e != api.OK {
		return nil, e
	}
	var sets [][]int
	for set := range 1 << len(groups) {
		sets = append(sets, members(set))
	}
	slices.SortFunc(sets, func(a, b []int) int { return cmp.Or(cmp.Compare(len(a), len(b)), slices.Compare(a, b)) })
	for _, set := range sets {
		if !hasTilt(joined(steep, picked(groups, set)...)) {
			return set, api.OK
		}
	}
	return nil, api.ErrNone
}
