package grid

import (
	"cmp"
	"slices"

	"cusp/api"
)

// CheckTable returns the first error of a table, or OK.
func CheckTable(t []api.Point) api.Errno {
	if len(t) == 0 {
		return api.ErrEmpty
	}
	if len(t) > MaxBreaks {
		return api.ErrMany
	}
	var before number
	for i, p := range t {
		point, e := readAll(p.X, p.Y)
		if e != api.OK {
			return e
		}
		if i > 0 && point[0].compare(before) <= 0 {
			return api.ErrOrder
		}
		before = point[0]
	}
	return api.OK
}

// Step returns the step of a table at a number.
func Step(t []api.Point, x api.Rat) (api.Rat, api.Errno) {
	if e := first(CheckTable(t), Check(x)); e != api.OK {
		return "", e
	}
	if order, _ := Order(x, t[0].X); order < 0 {
		return "", api.ErrRange
	}
	step := t[0].Y
	for _, p := range t[1:] {
		if order, _ := Order(x, p.X); order < 0 {
			break
		}
		step = p.Y
	}
	return step, api.OK
}

// sum returns the sum of weights.
func sum(weights []int) int64 {
	total := int64(0)
	for _, w := range weights {
		total += int64(w)
	}
	return total
}

// checkWeights returns the first error of weights, or OK.
func checkWeights(weights []int) api.Errno {
	if len(weights) == 0 {
		return api.ErrEmpty
	}
	if len(weights) > api.MaxList {
		return api.ErrMany
	}
	for _, w := range weights {
		if e := within(w, 0, api.MaxNumber); e != api.OK {
			return e
		}
	}
	if sum(weights) == 0 {
		return api.ErrZero
	}
	return api.OK
}

// Shares divides an integer by weights.
func Shares(total int, weights []int) ([]int, api.Errno) {
	if e := first(within(total, 0, api.MaxNumber), checkWeights(weights)); e != api.OK {
		return nil, e
	}
	by := sum(weights)
	shares := make([]int, len(weights))
	rests := make([]int64, len(weights))
	order := make([]int, len(weights))
	left := total
	for i, w := range weights {
		product := int64(total) * int64(w)
		shares[i], rests[i], order[i] = int(product/by), product%by, i
		left -= shares[i]
	}
	slices.SortStableFunc(order, func(i, k int) int { return cmp.Compare(rests[k], rests[i]) })
	for _, i := range order[:left] {
		shares[i]++
	}
	return shares, api.OK
}

// The numbers of a drawn order are the remainders of division by drawModulus.
const (
	drawFactor  = 40014
	drawModulus = 2147483563
)

// Draw returns a drawn order of n elements.
func Draw(key, n int) ([]int, api.Errno) {
	if e := first(within(key, 1, drawModulus-1), within(n, 0, api.MaxList)); e != api.OK {
		return nil, e
	}
	left := make([]int, n)
	for i := range left {
		left[i] = i
	}
	drawn := make([]int, 0, n)
	x := int64(key)
	for len(left) > 0 {
		x = drawFactor * x % drawModulus
		at := int(x % int64(len(left)))
		drawn = append(drawn, left[at])
		left = slices.Delete(left, at, at+1)
	}
	return drawn, api.OK
}
