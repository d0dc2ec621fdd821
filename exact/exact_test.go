package exact_test

import (
	"math/big"
	"math/rand/v2"
	"strings"
	"testing"

	"cusp/api"
	"cusp/exact"
)

// term returns a term.
func term(factor int, number string) exact.Term {
	return exact.Term{Factor: factor, Number: api.Rat(number)}
}

func TestSignsOfSmallSums(t *testing.T) {
	for _, c := range []struct {
		terms  []exact.Term
		wanted int
	}{
		{nil, 0},
		{[]exact.Term{term(0, "5/7")}, 0},
		{[]exact.Term{term(7, "0")}, 0},
		{[]exact.Term{term(1, "1/2")}, 1},
		{[]exact.Term{term(-1, "1/2")}, -1},
		{[]exact.Term{term(1, "-1/2")}, -1},
		{[]exact.Term{term(-1, "-1/2")}, 1},
		{[]exact.Term{term(2, "1/2"), term(-1, "1")}, 0},
		{[]exact.Term{term(3, "1/3"), term(-2, "1/2")}, 0},
		{[]exact.Term{term(1, "1/2"), term(1, "1/3"), term(-1, "5/6")}, 0},
		{[]exact.Term{term(1, "1/2"), term(1, "1/3"), term(-1, "6/7")}, -1},
		{[]exact.Term{term(1, "1/2"), term(1, "1/3"), term(-1, "4/5")}, 1},
		{[]exact.Term{term(-1<<63, "1"), term(1<<62, "2")}, 0},
		{[]exact.Term{term(-1<<63, "1"), term(1<<63-1, "1")}, -1},
		{[]exact.Term{term(1, "1000000000"), term(-1, "999999999")}, 1},
	} {
		if got := exact.Sign(c.terms...); got != c.wanted {
			t.Errorf("the sign of %v: got %d, want %d", c.terms, got, c.wanted)
		}
	}
}

// randomNumber returns a number with up to so many digits above and below; often it has long rows of 0 or 9.
func randomNumber(r *rand.Rand, digits int) *big.Rat {
	natural := func() *big.Int {
		n := 1 + r.IntN(digits)
		text := strings.Repeat([]string{"0", "9", "37"}[r.IntN(3)], n)[:n]
		at := r.IntN(n)
		text = "1" + text[:at] + string(rune('0'+r.IntN(10))) + text[at:]
		v, _ := new(big.Int).SetString(text[:n], 10)
		return v
	}
	v := new(big.Rat).SetFrac(natural(), natural())
	if r.IntN(2) == 0 {
		v.Neg(v)
	}
	return v
}

// TestSigns compares signs with those of math/big. Half of the sums are 0, or nearly so.
func TestSigns(t *testing.T) {
	r := rand.New(rand.NewPCG(5, 6))
	seen := map[int]int{}
	for i := range 3000 {
		digits := []int{2, 20, 600}[i%3]
		sum := new(big.Rat)
		var terms []exact.Term
		for range r.IntN(4) {
			factor, number := r.IntN(2001)-1000, randomNumber(r, digits)
			sum.Add(sum, new(big.Rat).Mul(number, big.NewRat(int64(factor), 1)))
			terms = append(terms, exact.Term{Factor: factor, Number: api.Rat(number.RatString())})
		}
		if i%2 == 0 {
			last := new(big.Rat).Neg(sum)
			if i%4 == 0 {
				last.Add(last, new(big.Rat).Inv(new(big.Rat).SetInt(new(big.Int).Exp(big.NewInt(10), big.NewInt(int64(3*digits)), nil))))
			}
			sum.Add(sum, last)
			terms = append(terms, exact.Term{Factor: 1, Number: api.Rat(last.RatString())})
		}
		got := exact.Sign(terms...)
		if got != sum.Sign() {
			t.Fatalf("the sign of %v: got %d, want %d", terms, got, sum.Sign())
		}
		seen[got]++
	}
	for sign := -1; sign <= 1; sign++ {
		if seen[sign] < 100 {
			t.Errorf("the sign %d was seen %d times", sign, seen[sign])
		}
	}
}
