package record

import (
	"slices"
	"strconv"

	"cusp/api"
	"cusp/grid"
)

// first returns the first error of several, or OK.
func first(errors ...api.Errno) api.Errno {
	for _, e := range errors {
		if e != api.OK {
			return e
		}
	}
	return api.OK
}

// when returns an error if there is a reason for it, or OK.
func when(is bool, e api.Errno) api.Errno {
	if is {
		return e
	}
	return api.OK
}

// within returns ErrRange for an integer that is not from low to high.
func within(n, low, high int) api.Errno { return when(n < low || n > high, api.ErrRange) }

// allWithin returns ErrRange if one of some integers is not from low to high.
func allWithin(l []int, low, high int) api.Errno {
	for _, n := range l {
		if e := within(n, low, high); e != api.OK {
			return e
		}
	}
	return api.OK
}

func checkName(name string) api.Errno { return when(!grid.IsName(name), api.ErrName) }

// checkNames returns ErrName if one of some texts is no name.
func checkNames(l []string) api.Errno {
	for _, name := range l {
		if e := checkName(name); e != api.OK {
			return e
		}
	}
	return api.OK
}

// number returns the integer with a text of at most 9 digits, if it is one.
func number(s string) (int, bool) {
	n, err := strconv.Atoi(s)
	// Of the texts that strconv reads, only one is that of the integer; MaxNumber is the greatest one of 9 digits.
	is := err == nil && strconv.Itoa(n) == s && 0 <= n && n <= api.MaxNumber
	return n, is
}

func isNumber(s string) bool {
	_, is := number(s)
	return is
}

// areDigits reports whether a text has no character but digits.
func areDigits(s string) bool {
	for _, r := range s {
		if r < '0' || r > '9' {
			return false
		}
	}
	return true
}

// with returns a list with one more element. Lists of registers share memory, so that none is changed in its place.
func with[T any](l []T, x T) []T { return append(slices.Clip(l), x) }

// instead returns a list with another element at a place.
func instead[T any](l []T, at int, x T) []T {
	out := slices.Clone(l)
	out[at] = x
	return out
}

// listOf returns the list of what is made from the elements of another one.
func listOf[T, U any](l []T, from func(T) U) []U {
	out := make([]U, len(l))
	for i, x := range l {
		out[i] = from(x)
	}
	return out
}
