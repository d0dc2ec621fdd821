package exact

import (
	"cmp"
	"slices"
)

// base is a power of ten, since all numbers come as decimal texts.
const (
	base       = 1000000000
	baseDigits = 9
)

// whole is a natural number of any size: its digits to the base, the lowest one first, without zeros at the end.
type whole []uint32

func of(n uint64) whole {
	var a whole
	for ; n > 0; n /= base {
		a = append(a, uint32(n%base))
	}
	return a
}

// read returns the value of a text of decimal digits.
func read(s string) whole {
	a := make(whole, 0, len(s)/baseDigits+1)
	for end := len(s); end > 0; end -= baseDigits {
		digit := uint32(0)
		for _, b := range []byte(s[max(0, end-baseDigits):end]) {
			digit = 10*digit + uint32(b-'0')
		}
		a = append(a, digit)
	}
	return a.trimmed()
}

func (a whole) trimmed() whole {
	for len(a) > 0 && a[len(a)-1] == 0 {
		a = a[:len(a)-1]
	}
	return a
}

// compare returns -1, 0 or 1.
func (a whole) compare(b whole) int {
	if len(a) != len(b) {
		return cmp.Compare(len(a), len(b))
	}
	for i, digit := range slices.Backward(a) {
		if digit != b[i] {
			return cmp.Compare(digit, b[i])
		}
	}
	return 0
}

func (a whole) plus(b whole) whole {
	if len(a) < len(b) {
		a, b = b, a
	}
	sum := make(whole, 0, len(a)+1)
	carry := uint32(0)
	for i, digit := range a {
		carry += digit
		if i < len(b) {
			carry += b[i]
		}
		sum = append(sum, carry%base)
		carry /= base
	}
	return append(sum, carry).trimmed()
}

func (a whole) times(b whole) whole {
	product := make(whole, len(a)+len(b))
	for i, x := range a {
		carry := uint64(0)
		for k, y := range b {
			carry += uint64(x)*uint64(y) + uint64(product[i+k])
			product[i+k] = uint32(carry % base)
			carry /= base
		}
		product[i+len(b)] = uint32(carry)
	}
	return product.trimmed()
}
