package grid

import (
	"strings"

	"cusp/api"
)

// number is a fraction; its denominator is not 0. Only text brings it to lowest terms.
type number struct {
	negative bool
	top      whole
	bottom   whole
}

// isWhole reports whether a text is a decimal natural number.
func isWhole(s string) bool {
	for _, b := range []byte(s) {
		if b < '0' || b > '9' {
			return false
		}
	}
	return s == "0" || s != "" && s[0] != '0'
}

// read returns the value of a text, or the error of a number.
func read(a api.Rat) (number, api.Errno) {
	top, bottom, isFraction := strings.Cut(string(a), "/")
	top, negative := strings.CutPrefix(top, "-")
	if !isFraction {
		bottom = "1"
	} else if bottom == "0" || bottom == "1" {
		return number{}, api.ErrForm
	}
	if !isWhole(top) || !isWhole(bottom) || negative && top == "0" {
		return number{}, api.ErrForm
	}
	if len(top) > api.MaxDigits || len(bottom) > api.MaxDigits {
		return number{}, api.ErrLarge
	}
	n := number{negative, readWhole(top), readWhole(bottom)}
	if isFraction && !divisor(n.top, n.bottom).isOne() {
		return number{}, api.ErrForm
	}
	return n, api.OK
}

// readAll returns the values of texts, or the first error.
func readAll(list ...api.Rat) ([]number, api.Errno) {
	numbers := make([]number, len(list))
	for i, a := range list {
		n, e := read(a)
		if e != api.OK {
			return nil, e
		}
		numbers[i] = n
	}
	return numbers, api.OK
}

// text returns a number in lowest terms, or ErrLarge.
func (n number) text() (api.Rat, api.Errno) {
	common := divisor(n.bottom, n.top)
	top, _ := n.top.over(common)
	bottom, _ := n.bottom.over(common)
	s, under := top.text(), bottom.text()
	if len(s) > api.MaxDigits || len(under) > api.MaxDigits {
		return "", api.ErrLarge
	}
	if n.negative && s != "0" {
		s = "-" + s
	}
	if under != "1" {
		s += "/" + under
	}
	return api.Rat(s), api.OK
}

// numberOf returns an integer as a number.
func numberOf(n int) number {
	size := uint64(n)
	if n < 0 {
		size = -size
	}
	return number{n < 0, wholeOf(size), wholeOf(1)}
}

func (n number) isZero() bool { return len(n.top) == 0 }

func (n number) opposite() number { return number{!n.negative, n.top, n.bottom} }

// inverse returns 1 divided by a number other than 0.
func (n number) inverse() number { return number{n.negative, n.bottom, n.top} }

func (n number) plus(m number) number {
	a, b, bottom := n.top.times(m.bottom), m.top.times(n.bottom), n.bottom.times(m.bottom)
	switch {
	case n.negative == m.negative:
		return number{n.negative, a.plus(b), bottom}
	case a.compare(b) >= 0:
		return number{n.negative, a.minus(b), bottom}
	default:
		return number{m.negative, b.minus(a), bottom}
	}
}

func (n number) minus(m number) number { return n.plus(m.opposite()) }

func (n number) times(m number) number {
	return number{n.negative != m.negative, n.top.times(m.top), n.bottom.times(m.bottom)}
}

// compare returns -1, 0 or 1.
func (n number) compare(m number) int {
	difference := n.minus(m)
	switch {
	case difference.isZero():
		return 0
	case difference.negative:
		return -1
	default:
		return 1
	}
}

// Check returns the first error of a number, or OK.
func Check(a api.Rat) api.Errno {
	_, e := read(a)
	return e
}

// Of returns the quotient of two integers.
func Of(num, den int) (api.Rat, api.Errno) {
	if den == 0 {
		return "", api.ErrZero
	}
	return numberOf(num).times(numberOf(den).inverse()).text()
}

// combined returns what an operation makes of two numbers, or the first error.
func combined(a, b api.Rat, operation func(n, m number) number) (api.Rat, api.Errno) {
	n, e := readAll(a, b)
	if e != api.OK {
		return "", e
	}
	return operation(n[0], n[1]).text()
}

// Add returns the sum.
func Add(a, b api.Rat) (api.Rat, api.Errno) { return combined(a, b, number.plus) }

// Sub returns the difference.
func Sub(a, b api.Rat) (api.Rat, api.Errno) { return combined(a, b, number.minus) }

// Mul returns the product.
func Mul(a, b api.Rat) (api.Rat, api.Errno) { return combined(a, b, number.times) }

// Div returns the quotient.
func Div(a, b api.Rat) (api.Rat, api.Errno) {
	n, e := readAll(a, b)
	if e != api.OK {
		return "", e
	}
	if n[1].isZero() {
		return "", api.ErrZero
	}
	return n[0].times(n[1].inverse()).text()
}

// Order compares two numbers.
func Order(a, b api.Rat) (int, api.Errno) {
	n, e := readAll(a, b)
	if e != api.OK {
		return 0, e
	}
	return n[0].compare(n[1]), api.OK
}

// Floor returns the greatest integer that is not above a number.
func Floor(a api.Rat) (api.Rat, api.Errno) {
	n, e := read(a)
	if e != api.OK {
		return "", e
	}
	floor, rest := n.top.over(n.bottom)
	if n.negative && len(rest) > 0 {
		floor = floor.plus(wholeOf(1))
	}
	return number{n.negative, floor, wholeOf(1)}.text()
}
