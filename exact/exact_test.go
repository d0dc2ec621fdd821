package exact_test

import (
	"math/big"
	"math/rand/v2"
	"strings"
	"testing"

	"cusp/api"
	"cusp/exact"
)

// ten returns 10^n and a number more.
func ten(n int, more int64) *big.Int {
	v := new(big.Int).Exp(big.NewInt(10), big.NewInt(int64(n)), nil)
	return v.Add(v, big.NewInt(more))
}

// term returns a term.
func term(factor int, number string) exact.Term {
	return exact.Term{Factor: factor, Number: api.Rat(number)}
}

func TestSignsOfSmallSums(t *testing.T) {
	for _, c := range []struct {
		terms  []exact.Term
		wanted int
	}{
		{nil, 0},
		{[]exact.Term{term(0, "5/7")}, 0},
		{[]exact.Term{term(7, "0")}, 0},
		{[]exact.Term{term(1, "1/2")}, 1},
		{[]exact.Term{term(-1, "1/2")}, -1},
		{[]exact.Term{term(1, "-1/2")}, -1},
		{[]exact.Term{term(-1, "-1/2")}, 1},
		{[]exact.Term{term(2, "1/2"), term(-1, "1")}, 0},
		{[]exact.Term{term(3, "1/3"), term(-2, "1/2")}, 0},
		{[]exact.Term{term(1, "1/2"), term(1, "1/3"), term(-1, "5/6")}, 0},
		{[]exact.Term{term(1, "1/2"), term(1, "1/3"), term(-1, "6/7")}, -1},
		{[]exact.Term{term(1, "1/2"), term(1, "1/3"), term(-1, "4/5")}, 1},
		{[]exact.Term{term(-1<<63, "1"), term(1<<62, "2")}, 0},
		{[]exact.Term{term(-1<<63, "1"), term(1<<63-1, "1")}, -1},
		{[]exact.Term{term(1, "1000000000"), term(-1, "999999999")}, 1},
	} {
		if got := exact.Sign(c.terms...); got != c.wanted {
			t.Errorf("the sign of %v: got %d, want %d", c.terms, got, c.wanted)
		}
	}
}

// randomNumber returns a number with up to so many digits above and below; often it has long rows of 0 or 9.
func randomNumber(r *rand.Rand, digits int) *big.Rat {
	natural := func() *big.Int {
		n := 1 + r.IntN(digits)
		text := strings.Repeat([]string{"0", "9", "37"}[r.IntN(3)], n)[:n]
		at := r.IntN(n)
		text = "1" + text[:at] + string(rune('0'+r.IntN(10))) + text[at:]
		v, _ := new(big.Int).SetString(text[:n], 10)
		return v
	}
	v := new(big.Rat).SetFrac(natural(), natural())
	if r.IntN(2) == 0 {
		v.Neg(v)
	}
	return v
}

// TestSigns compares signs with those of math/big. Half of the sums are 0, or nearly so.
func TestSigns(t *testing.T) {
	r := rand.New(rand.NewPCG(5, 6))
	seen := map[int]int{}
	for i := range 3000 {
		digits := []int{2, 20, 600}[i%3]
		sum := new(big.Rat)
		var terms []exact.Term
		for range r.IntN(4) {
			factor, number := r.IntN(2001)-1000, randomNumber(r, digits)
			sum.Add(sum, new(big.Rat).Mul(number, big.NewRat(int64(factor), 1)))
			terms = append(terms, exact.Term{Factor: factor, Number: api.Rat(number.RatString())})
		}
		if i%2 == 0 {
			last := new(big.Rat).Neg(sum)
			if i%4 == 0 {
				last.Add(last, new(big.Rat).Inv(new(big.Rat).SetInt(new(big.Int).Exp(big.NewInt(10), big.NewInt(int64(3*digits)), nil))))
			}
			sum.Add(sum, last)
			terms = append(terms, exact.Term{Factor: 1, Number: api.Rat(last.RatString())})
		}
		got := exact.Sign(terms...)
		if got != sum.Sign() {
			t.Fatalf("the sign of %v: got %d, want %d", terms, got, sum.Sign())
		}
		seen[got]++
	}
	for sign := -1; sign <= 1; sign++ {
		if seen[sign] < 100 {
			t.Errorf("the sign %d was seen %d times", sign, seen[sign])
		}
	}
}

func TestSmallValues(t *testing.T) {
	for _, c := range []struct {
		by     int
		terms  []exact.Term
		wanted api.Rat
	}{
		{1, nil, "0"},
		{7, []exact.Term{term(0, "5/7")}, "0"},
		{1, []exact.Term{term(3, "-5/6")}, "-5/2"},
		{5, []exact.Term{term(-3, "-5/6")}, "1/2"},
		{6, []exact.Term{term(2, "1/2"), term(1, "2")}, "1/2"},
		{6, []exact.Term{term(2, "1/2"), term(-1, "1")}, "0"},
		{1, []exact.Term{term(1, "1/2"), term(1, "1/3"), term(1, "1/6")}, "1"},
		{1, []exact.Term{term(-1<<63, "1"), term(1<<63-1, "1")}, "-1"},
		{1<<63 - 1, []exact.Term{term(1<<63-1, "2/3")}, "2/3"},
	} {
		if got, e := exact.Value(c.by, c.terms...); got != c.wanted || e != api.OK {
			t.Errorf("the value of %v by %d: got %s and %d, want %s", c.terms, c.by, got, e, c.wanted)
		}
	}
	for _, by := range []int{0, -1, -1 << 63} {
		if got, e := exact.Value(by, term(1, "1")); got != "" || e != api.ErrRange {
			t.Errorf("a sum by %d: got %q and %d", by, got, e)
		}
	}
}

// isLarge reports whether a number has more digits than permitted.
func isLarge(v *big.Rat) bool {
	return len(strings.TrimPrefix(v.Num().String(), "-")) > api.MaxDigits || len(v.Denom().String()) > api.MaxDigits
}

// TestValues compares values with those of math/big. Some are small beside their parts, and some have too many digits.
func TestValues(t *testing.T) {
	r := rand.New(rand.NewPCG(7, 8))
	large, long := 0, 0
	for i := range 1500 {
		digits := []int{2, 20, 300, 599, 600}[i%5]
		sum := new(big.Rat)
		var terms []exact.Term
		add := func(factor int, number *big.Rat) {
			sum.Add(sum, new(big.Rat).Mul(number, big.NewRat(int64(factor), 1)))
			terms = append(terms, exact.Term{Factor: factor, Number: api.Rat(number.RatString())})
		}
		number := randomNumber(r, digits)
		if i%2 == 0 {
			number.SetFrac(ten(digits, -1-r.Int64N(90)), ten(digits, -1-r.Int64N(90)))
		}
		for range r.IntN(3) {
			add(r.IntN(2001)-1000, number)
		}
		for range r.IntN(3) {
			add(r.IntN(2001)-1000, randomNumber(r, 3))
		}
		by := 1 + r.IntN([]int{1, 2000, 1 << 62}[r.IntN(3)])
		sum.Quo(sum, big.NewRat(int64(by), 1))
		wanted, fault := api.Rat(sum.RatString()), api.OK
		if isLarge(sum) {
			wanted, fault = "", api.ErrLarge
			large++
		}
		got, e := exact.Value(by, terms...)
		if got != wanted || e != fault {
			t.Fatalf("the value of %v by %d: got %s and %d, want %s and %d", terms, by, got, e, wanted, fault)
		}
		if len(got) > 600 {
			long++
		}
	}
	if large < 50 || long < 100 {
		t.Errorf("only %d values with too many digits, and %d long ones", large, long)
	}
}

// TestValuesAtTheLimit: a value may have 600 digits, also if parts of it have more.
func TestValuesAtTheLimit(t *testing.T) {
	nines, one := api.Rat(ten(600, -1).String()), term(1, "1")
	for i, c := range []struct {
		by    int
		terms []exact.Term
		e     api.Errno
	}{
		{1, []exact.Term{term(1, string(nines))}, api.OK},
		{1, []exact.Term{term(1, string(nines)), one}, api.ErrLarge},
		{1, []exact.Term{term(-1, string(nines)), term(-1, "1")}, api.ErrLarge},
		{2, []exact.Term{term(1, string(nines)), one}, api.OK},
		{1, []exact.Term{term(1, string(nines)), one, term(-1, string(nines))}, api.OK},
		{2000, []exact.Term{term(2000, string(nines))}, api.OK},
		{1, []exact.Term{term(1, "1/"+string(nines))}, api.OK},
		{2, []exact.Term{term(1, "1/"+string(nines))}, api.ErrLarge},
		{2, []exact.Term{term(2, "1/"+string(nines))}, api.OK},
		{1, []exact.Term{term(1000, "1/"+string(nines)), term(-1, "1")}, api.OK},
		{1, []exact.Term{term(1000, "1/"+string(nines)), one}, api.ErrLarge},
	} {
		if got, e := exact.Value(c.by, c.terms...); e != c.e || (got == "") != (e != api.OK) {
			t.Errorf("value %d: got %d, want %d", i, e, c.e)
		}
	}
}
