package grid

import (
	"cusp/api"
)

// interval is the set of the numbers from low to high.
type interval struct {
	low  number
	high number
}

// readSpan returns the value of a span, or its error.
func readSpan(s api.Span) (interval, api.Errno) {
	ends, e := readAll(s.Low, s.High)
	if e != api.OK {
		return interval{}, e
	}
	if ends[0].compare(ends[1]) > 0 {
		return interval{}, api.ErrOrder
	}
	return interval{ends[0], ends[1]}, api.OK
}

// readSpans returns the values of two spans, or the first error.
func readSpans(a, b api.Span) (interval, interval, api.Errno) {
	s, errorOfFirst := readSpan(a)
	t, errorOfSecond := readSpan(b)
	return s, t, first(errorOfFirst, errorOfSecond)
}

// text returns an interval as a span, or ErrLarge.
func (s interval) text() (api.Span, api.Errno) {
	low, errorOfLow := s.low.text()
	high, errorOfHigh := s.high.text()
	if e := first(errorOfLow, errorOfHigh); e != api.OK {
		return api.Span{}, e
	}
	return api.Span{Low: low, High: high}, api.OK
}

// inverse returns the numbers whose inverses are in s; 0 is not in it.
func (s interval) inverse() interval { return interval{s.high.inverse(), s.low.inverse()} }

func (s interval) plus(t interval) interval {
	return interval{s.low.plus(t.low), s.high.plus(t.high)}
}

func (s interval) minus(t interval) interval {
	return interval{s.low.minus(t.high), s.high.minus(t.low)}
}

func (s interval) times(t interval) interval {
	product := s.low.times(t.low)
	all := interval{product, product}
	for _, product := range []number{s.low.times(t.high), s.high.times(t.low), s.high.times(t.high)} {
		if product.compare(all.low) < 0 {
			all.low = product
		}
		if product.compare(all.high) > 0 {
			all.high = product
		}
	}
	return all
}

// hasZero reports whether 0 is in an interval.
func (s interval) hasZero() bool {
	zero := numberOf(0)
	return s.low.compare(zero) <= 0 && s.high.compare(zero) >= 0
}

// CheckSpan returns the first error of a span, or OK.
func CheckSpan(s api.Span) api.Errno {
	_, e := readSpan(s)
	return e
}

// combinedSpans returns what an operation makes of two spans, or the first error.
func combinedSpans(a, b api.Span, operation func(s, t interval) interval) (api.Span, api.Errno) {
	s, t, e := readSpans(a, b)
	if e != api.OK {
		return api.Span{}, e
	}
	return operation(s, t).text()
}

// Plus returns the sum of two spans.
func Plus(a, b api.Span) (api.Span, api.Errno) { return combinedSpans(a, b, interval.plus) }

// Minus returns the difference of two spans.
func Minus(a, b api.Span) (api.Span, api.Errno) { return combinedSpans(a, b, interval.minus) }

// Times returns the product of two spans.
func Times(a, b api.Span) (api.Span, api.Errno) { return combinedSpans(a, b, interval.times) }

// Over returns the quotient of two spans.
func Over(a, b api.Span) (api.Span, api.Errno) {
	s, t, e := readSpans(a, b)
	if e != api.OK {
		return api.Span{}, e
	}
	if t.hasZero() {
		return api.Span{}, api.ErrZero
	}
	return s.times(t.inverse()).text()
}

// Root returns a span that contains the root of a number.
func Root(a api.Rat) (api.Span, api.Errno) {
	n, e := read(a)
	if e != api.OK {
		return api.Span{}, e
	}
	if n.negative {
		return api.Span{}, api.ErrRange
	}
	// In lowest terms, a fraction is a square only if both of its numbers are.
	exact := number{false, n.top.root(), n.bottom.root()}
	if exact.times(exact).compare(n) == 0 {
		return interval{exact, exact}.text()
	}
	scaled, _ := n.top.times(wholeOf(1000000)).over(n.bottom)
	low := scaled.root()
	high := low.plus(wholeOf(1))
	return interval{number{false, low, wholeOf(1000)}, number{false, high, wholeOf(1000)}}.text()
}
