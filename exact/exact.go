// Package exact tells the signs of sums of numbers of any size: the sums of package grid have a limit of digits.
package exact

import (
	"strings"

	"cusp/api"
)

// Term is a multiple of a number.
type Term struct {
	Factor int
	Number api.Rat
}

// fraction returns the size of a term as numerator and denominator, and whether it is below 0.
func (t Term) fraction() (whole, whole, bool) {
	top, bottom, isFraction := strings.Cut(string(t.Number), "/")
	if !isFraction {
		bottom = "1"
	}
	top, isNegative := strings.CutPrefix(top, "-")
	size := uint64(t.Factor)
	if t.Factor < 0 {
		size, isNegative = -size, !isNegative
	}
	return read(top).times(of(size)), read(bottom), isNegative
}

// Sign returns -1, 0 or 1 for a sum of terms that is below, equal to, or above 0. Their numbers are such that grid.Check accepts.
func Sign(terms ...Term) int {
	// Two sums over one denominator need neither differences nor lowest terms.
	var above, below whole
	under := of(1)
	for _, t := range terms {
		top, bottom, isNegative := t.fraction()
		part := top.times(under)
		above, below, under = above.times(bottom), below.times(bottom), under.times(bottom)
		if isNegative {
			below = below.plus(part)
		} else {
			above = above.plus(part)
		}
	}
	return above.compare(below)
}
