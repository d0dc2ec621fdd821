package exact

import (
	"cmp"
	"slices"
	"sort"
	"strconv"
	"strings"
)

// base is a power of ten, since all numbers come as decimal texts.
const (
	base       = 1000000000
	baseDigits = 9
)

// whole is a natural number of any size: its digits to the base, the lowest one first, without zeros at the end.
type whole []uint32

func of(n uint64) whole {
	var a whole
	for ; n > 0; n /= base {
		a = append(a, uint32(n%base))
	}
	return a
}

// read returns the value of a text of decimal digits.
func read(s string) whole {
	a := make(whole, 0, len(s)/baseDigits+1)
	for end := len(s); end > 0; end -= baseDigits {
		digit := uint32(0)
		for _, b := range []byte(s[max(0, end-baseDigits):end]) {
			digit = 10*digit + uint32(b-'0')
		}
		a = append(a, digit)
	}
	return a.trimmed()
}

func (a whole) trimmed() whole {
	for len(a) > 0 && a[len(a)-1] == 0 {
		a = a[:len(a)-1]
	}
	return a
}

// text returns the decimal digits.
func (a whole) text() string {
	if len(a) == 0 {
		return "0"
	}
	var out strings.Builder
	for i, digit := range slices.Backward(a) {
		s := strconv.FormatUint(uint64(digit), 10)
		if i < len(a)-1 {
			out.WriteString(strings.Repeat("0", baseDigits-len(s)))
		}
		out.WriteString(s)
	}
	return out.String()
}

// compare returns -1, 0 or 1.
func (a whole) compare(b whole) int {
	if len(a) != len(b) {
		return cmp.Compare(len(a), len(b))
	}
	for i, digit := range slices.Backward(a) {
		if digit != b[i] {
			return cmp.Compare(digit, b[i])
		}
	}
	return 0
}

func (a whole) plus(b whole) whole {
	if len(a) < len(b) {
		a, b = b, a
	}
	sum := make(whole, 0, len(a)+1)
	carry := uint32(0)
	for i, digit := range a {
		carry += digit
		if i < len(b) {
			carry += b[i]
		}
		sum = append(sum, carry%base)
		carry /= base
	}
	return append(sum, carry).trimmed()
}

// minus returns the difference; b is at most a.
func (a whole) minus(b whole) whole {
	rest := slices.Clone(a)
	borrowed := uint32(0)
	for i := range rest {
		less := borrowed
		if i < len(b) {
			less += b[i]
		}
		borrowed = 0
		if rest[i] < less {
			rest[i], borrowed = rest[i]+base, 1
		}
		rest[i] -= less
	}
	return rest.trimmed()
}

func (a whole) times(b whole) whole {
	product := make(whole, len(a)+len(b))
	for i, x := range a {
		carry := uint64(0)
		for k, y := range b {
			carry += uint64(x)*uint64(y) + uint64(product[i+k])
			product[i+k] = uint32(carry % base)
			carry /= base
		}
		product[i+len(b)] = uint32(carry)
	}
	return product.trimmed()
}

// over returns quotient and remainder of a division by a number above 0.
func (a whole) over(b whole) (whole, whole) {
	// The highest digits, one fewer than those of b, are less than b.
	steps := max(0, len(a)-len(b)+1)
	quotient, rest := make(whole, steps), a[steps:]
	for i, digit := range slices.Backward(a[:steps]) {
		rest = append(whole{digit}, rest...).trimmed()
		isEnough := func(n int) bool { return b.times(of(uint64(n)+1)).compare(rest) > 0 }
		n := sort.Search(base-1, isEnough)
		quotient[i] = uint32(n)
		rest = rest.minus(b.times(of(uint64(n))))
	}
	return quotient.trimmed(), rest
}

// divisor returns the greatest common divisor of two numbers.
func divisor(a, b whole) whole {
	for len(b) > 0 {
		_, rest := a.over(b)
		a, b = b, rest
	}
	return a
}
