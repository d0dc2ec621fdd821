// Package grid has rational numbers and spans, tables, shares and drawn orders, and sets of cells: layer 1, see shared/doc/01-grid.md.
package grid

import (
	"cusp/api"
)

// MaxBreaks is the greatest number of breakpoints of a table.
const MaxBreaks = 64

// Box is a box of cells: those from the one to the other cell, by all coordinates.
type Box struct {
	Low  api.Cell
	High api.Cell
}

// Count is how many cells, faces, edges and corners a set has, its surface, and Euler's number.
type Count struct {
	Cells   int
	Faces   int
	Edges   int
	Corners int
	Surface int
	Euler   int
}

// first returns the first error of several, or OK.
func first(errors ...api.Errno) api.Errno {
	for _, e := range errors {
		if e != api.OK {
			return e
		}
	}
	return api.OK
}

// within returns ErrRange for an integer that is not from low to high.
func within(n, low, high int) api.Errno {
	if n < low || n > high {
		return api.ErrRange
	}
	return api.OK
}

// IsName reports whether a text is a name.
func IsName(s string) bool {
	if s == "" || len(s) > api.MaxName {
		return false
	}
	for i, r := range s {
		if !isLetter(r) && (i == 0 || !isFurther(r)) {
			return false
		}
	}
	return true
}

func isLetter(r rune) bool { return r >= 'A' && r <= 'Z' || r >= 'a' && r <= 'z' }

// isFurther reports whether a name may contain a character behind its first letter, other than letters.
func isFurther(r rune) bool { return r >= '0' && r <= '9' || r == '_' }
