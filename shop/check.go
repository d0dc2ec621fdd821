package shop

import (
	"cusp/api"
	"cusp/grid"
)

// first returns the first error of several, or OK.
func first(errors ...api.Errno) api.Errno {
	for _, e := range errors {
		if e != api.OK {
			return e
		}
	}
	return api.OK
}

// when returns an error if there is a reason for it, or OK.
func when(is bool, e api.Errno) api.Errno {
	if is {
		return e
	}
	return api.OK
}

// within returns ErrRange for an integer that is not from low to high.
func within(n, low, high int) api.Errno { return when(n < low || n > high, api.ErrRange) }

// allWithin returns ErrRange if one of some integers is not from low to high.
func allWithin(l []int, low, high int) api.Errno {
	for _, n := range l {
		if e := within(n, low, high); e != api.OK {
			return e
		}
	}
	return api.OK
}

func checkName(name string) api.Errno { return when(!grid.IsName(name), api.ErrName) }

// names has the names of the elements of a list that were looked at.
type names map[string]bool

// add puts down a name, or returns ErrTwice if it is there.
func (n names) add(name string) api.Errno {
	if n[name] {
		return api.ErrTwice
	}
	n[name] = true
	return api.OK
}

// listOf returns the list of what is made from the elements of another one.
func listOf[T, U any](l []T, from func(T) U) []U {
	out := make([]U, len(l))
	for i, x := range l {
		out[i] = from(x)
	}
	return out
}

// sum returns the sum of some integers.
func sum(l ...int) int {
	total := 0
	for _, n := range l {
		total += n
	}
	return total
}
