package grid

import (
	"slices"
	"strconv"
	"strings"
)

// wholeBase is a power of ten, since all numbers come and go as decimal texts.
const (
	wholeBase   = 1000000000
	wholeDigits = 9
)

// whole is a natural number of any size: its digits to the base wholeBase, the lowest one first, without zeros at the end.
// Its operations leave their operands as they are, but results may share memory with them.
type whole []uint32

func wholeOf(n uint64) whole {
	var a whole
	for ; n > 0; n /= wholeBase {
		a = append(a, uint32(n%wholeBase))
	}
	return a
}

// readWhole reads a text of decimal digits.
func readWhole(s string) whole {
	a := make(whole, 0, len(s)/wholeDigits+1)
	for end := len(s); end > 0; end -= wholeDigits {
		digit := uint32(0)
		for _, b := range []byte(s[max(0, end-wholeDigits):end]) {
			digit = 10*digit + uint32(b-'0')
		}
		a = append(a, digit)
	}
	return a.trimmed()
}

// text returns the decimal digits.
func (a whole) text() string {
	if len(a) == 0 {
		return "0"
	}
	var out strings.Builder
	for i, digit := range slices.Backward(a) {
		s := strconv.FormatUint(uint64(digit), 10)
		if i < len(a)-1 {
			out.WriteString(strings.Repeat("0", wholeDigits-len(s)))
		}
		out.WriteString(s)
	}
	return out.String()
}

func (a whole) trimmed() whole {
	for len(a) > 0 && a[len(a)-1] == 0 {
		a = a[:len(a)-1]
	}
	return a
}

func (a whole) compare(b whole) int {
	if len(a) != len(b) {
		return len(a) - len(b)
	}
	for i, digit := range slices.Backward(a) {
		if digit != b[i] {
			return int(digit) - int(b[i])
		}
	}
	return 0
}

func (a whole) isOne() bool { return len(a) == 1 && a[0] == 1 }

func (a whole) plus(b whole) whole {
	if len(a) < len(b) {
		a, b = b, a
	}
	sum := make(whole, 0, len(a)+1)
	carry := uint32(0)
	for i, digit := range a {
		carry += digit
		if i < len(b) {
			carry += b[i]
		}
		sum = append(sum, carry%wholeBase)
		carry /= wholeBase
	}
	return append(sum, carry).trimmed()
}

// minus returns the difference; b is at most a.
func (a whole) minus(b whole) whole {
	rest := append(slices.Clone(a), 0)
	rest.take(append(slices.Clone(b), make(whole, len(a)-len(b))...), 1)
	return rest.trimmed()
}

// take subtracts a multiple of b from the lowest len(b)+1 digits of a, in place.
// It reports whether there was that much; if not, wholeBase to the power len(b)+1 is still to be subtracted.
func (a whole) take(b whole, factor uint64) bool {
	carry := uint64(0)
	for i, digit := range b {
		carry += factor * uint64(digit)
		low := uint32(carry % wholeBase)
		carry /= wholeBase
		if a[i] < low {
			a[i] += wholeBase
			carry++
		}
		a[i] -= low
	}
	top := uint64(a[len(b)])
	if top < carry {
		a[len(b)] = uint32(top + wholeBase - carry)
		return false
	}
	a[len(b)] = uint32(top - carry)
	return true
}

// giveBack adds b to the lowest len(b)+1 digits of a, in place, and drops what goes beyond them.
func (a whole) giveBack(b whole) {
	carry := uint32(0)
	for i, digit := range b {
		carry += a[i] + digit
		a[i] = carry % wholeBase
		carry /= wholeBase
	}
	a[len(b)] = (a[len(b)] + carry) % wholeBase
}

func (a whole) times(b whole) whole {
	product := make(whole, len(a)+len(b))
	for i, x := range a {
		carry := uint64(0)
		for k, y := range b {
			carry += uint64(x)*uint64(y) + uint64(product[i+k])
			product[i+k] = uint32(carry % wholeBase)
			carry /= wholeBase
		}
		product[i+len(b)] = uint32(carry)
	}
	return product.trimmed()
}

// over returns quotient and remainder; b is not 0.
func (a whole) over(b whole) (whole, whole) {
	if a.compare(b) < 0 {
		return nil, a
	}
	if len(b) == 1 {
		quotient, rest := a.overDigit(uint64(b[0]))
		return quotient, wholeOf(rest)
	}
	// With a divisor whose top digit is at least half of the base, a guess from two digits is at most two too high.
	scale := uint64(wholeBase / (b[len(b)-1] + 1))
	by := b.times(wholeOf(scale))
	rest := make(whole, len(a)+1)
	copy(rest, a.times(wholeOf(scale)))
	quotient := make(whole, len(a)-len(b)+1)
	for i := len(quotient) - 1; i >= 0; i-- {
		digit := guess(rest[i:i+len(by)+1], by)
		if !rest[i:].take(by, digit) {
			digit--
			rest[i:].giveBack(by)
		}
		quotient[i] = uint32(digit)
	}
	rest, _ = rest.trimmed().overDigit(scale)
	return quotient.trimmed(), rest
}

// guess returns a digit of a quotient, or the one above it: that of the top digits of a by those of b, which is one digit shorter.
func guess(a, b whole) uint64 {
	n := len(b)
	top, next := uint64(b[n-1]), uint64(b[n-2])
	head := uint64(a[n])*wholeBase + uint64(a[n-1])
	digit := min(head/top, wholeBase-1)
	rest := head - digit*top
	for rest < wholeBase && digit*next > rest*wholeBase+uint64(a[n-2]) {
		digit--
		rest += top
	}
	return digit
}

// overDigit returns quotient and remainder of a division by a number from 1 to wholeBase.
func (a whole) overDigit(by uint64) (whole, uint64) {
	quotient := make(whole, len(a))
	rest := uint64(0)
	for i, digit := range slices.Backward(a) {
		rest = rest*wholeBase + uint64(digit)
		quotient[i] = uint32(rest / by)
		rest %= by
	}
	return quotient.trimmed(), rest
}

// divisor returns the greatest common divisor of two numbers.
func divisor(a, b whole) whole {
	for len(b) > 2 {
		_, rest := a.over(b)
		a, b = b, rest
	}
	if len(b) == 0 {
		return a
	}
	_, rest := a.over(b)
	// Two digits fit a machine word.
	x, y := b.word(), rest.word()
	for y > 0 {
		x, y = y, x%y
	}
	return wholeOf(x)
}

// word returns the value of at most two digits.
func (a whole) word() uint64 {
	n := uint64(0)
	for _, digit := range slices.Backward(a) {
		n = n*wholeBase + uint64(digit)
	}
	return n
}

// root returns the integer part of the square root.
func (a whole) root() whole {
	if len(a) == 0 {
		return nil
	}
	// From above, Newton's steps descend until they have arrived.
	root := make(whole, (len(a)+1)/2+1)
	root[len(root)-1] = 1
	for {
		quotient, _ := a.over(root)
		next, _ := root.plus(quotient).overDigit(2)
		if next.compare(root) >= 0 {
			return root
		}
		root = next
	}
}
