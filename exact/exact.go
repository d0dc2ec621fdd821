// Package exact tells the signs and the values of sums whose parts may have any size: the sums of package grid have a limit of digits, part by part.
package exact

import (
	"strings"

	"cusp/api"
)

// Term is a multiple of a number.
type Term struct {
	Factor int
	Number api.Rat
}

// fraction returns the size of a term as numerator and denominator, and whether it is below 0.
func (t Term) fraction() (whole, whole, bool) {
	top, bottom, isFraction := strings.Cut(string(t.Number), "/")
	if !isFraction {
		bottom = "1"
	}
	top, isNegative := strings.CutPrefix(top, "-")
	size := uint64(t.Factor)
	if t.Factor < 0 {
		size, isNegative = -size, !isNegative
	}
	return read(top).times(of(size)), read(bottom), isNegative
}

// sums returns the sum of the terms above 0, that of the sizes of the terms below 0, and the denominator of both.
// Two sums over one denominator need neither differences nor lowest terms on the way.
func sums(terms []Term) (above, below, under whole) {
	under = of(1)
	for _, t := range terms {
		top, bottom, isNegative := t.fraction()
		part := top.times(under)
		above, below, under = above.times(bottom), below.times(bottom), under.times(bottom)
		if isNegative {
			below = below.plus(part)
		} else {
			above = above.plus(part)
		}
	}
	return above, below, under
}

// Sign returns -1, 0 or 1 for a sum of terms that is below, equal to, or above 0. Their numbers are such that grid.Check accepts.
func Sign(terms ...Term) int {
	above, below, _ := sums(terms)
	return above.compare(below)
}

// Value returns a sum of terms, divided by an integer. It returns ErrRange if this one is not above 0, and ErrLarge if the result alone has too many digits.
// The numbers of the terms are such that grid.Check accepts.
func Value(by int, terms ...Term) (api.Rat, api.Errno) {
	if by < 1 {
		return "", api.ErrRange
	}
	above, below, under := sums(terms)
	sign := ""
	if above.compare(below) < 0 {
		above, below, sign = below, above, "-"
	}
	top, bottom := lowest(above.minus(below), under.times(of(uint64(by))))
	if len(top) > api.MaxDigits || len(bottom) > api.MaxDigits {
		return "", api.ErrLarge
	}
	if bottom == "1" {
		return api.Rat(sign + top), api.OK
	}
	return api.Rat(sign + top + "/" + bottom), api.OK
}

// lowest returns the texts of numerator and denominator of a fraction in lowest terms.
func lowest(top, bottom whole) (string, string) {
	common := divisor(bottom, top)
	top, _ = top.over(common)
	bottom, _ = bottom.over(common)
	return top.text(), bottom.text()
}
