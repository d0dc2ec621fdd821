package grid_test

import (
	"math/big"
	"strings"
	"testing"

	"cusp/api"
	"cusp/grid"
)

func TestNames(t *testing.T) {
	for _, s := range []string{"a", "Z", "ann", "a_1", "A0z9_", "z9", strings.Repeat("a", 24)} {
		same(t, "IsName "+s, grid.IsName(s), true)
	}
	for _, s := range []string{"", "1a", "_a", "a b", "a-b", "a.", "é", "aé", "a\xff", "a\x00", " a", "a@", "a[", "a`", "a{", "a/", "a:", strings.Repeat("a", 25), strings.Repeat("é", 12)} {
		same(t, "IsName "+s, grid.IsName(s), false)
	}
}

func TestCheck(t *testing.T) {
	most, more := digits(600), digits(601)
	for _, row := range []struct {
		e    api.Errno
		list []string
	}{
		{api.OK, []string{"0", "1", "-1", "10", "-7", "3/2", "-3/2", "1/2", "1/10", "10/3", "999999999/1000000000", most, "-" + most, "1/" + most, "-1/" + most}},
		{api.ErrForm, []string{"", "-", "/", "-0", "00", "01", "-01", "+1", " 1", "1 ", "1.5", "1e3", "a", "--1", "1-", "1/", "/2", "-/2", "1/1", "1/0", "0/1", "0/0", "1/02", "1/-2", "1//2", "1/2/3", "1/2/", "-0/2", "1/a", "١", "1\x00"}},
		{api.ErrForm, []string{"2/4", "-2/4", "0/5", "6/3", "1000000000/10", "3000000000000000000003/3"}},
		{api.ErrForm, []string{"0" + more, more + "x", more + "/1", more + "/0", more + "/", "-0/" + more, "x/" + more}},
		{api.ErrLarge, []string{more, "-" + more, "1/" + more, more + "/2", more + "/" + more, "2/" + "1" + strings.Repeat("0", 600), "0/" + more}},
		{api.ErrForm, []string{most + "/" + most, most + "/9", "9/" + most}},
	} {
		for _, s := range row.list {
			same(t, "Check "+s, grid.Check(api.Rat(s)), row.e)
		}
	}
}

func TestOf(t *testing.T) {
	for _, row := range []struct {
		num, den int
		want     api.Rat
	}{
		{15, -6, "-5/2"}, {-15, -6, "5/2"}, {15, 6, "5/2"}, {-15, 6, "-5/2"}, {0, -3, "0"}, {0, 1, "0"}, {6, 3, "2"}, {-6, 3, "-2"}, {1, 1, "1"}, {7, 1, "7"}, {1, 7, "1/7"},
		{1000000000, 999999999, "1000000000/999999999"}, {greatest, 1, "9223372036854775807"}, {least, 1, "-9223372036854775808"}, {least, -1, "9223372036854775808"}, {least, least, "1"}, {1, least, "-1/9223372036854775808"}, {greatest, least, "-9223372036854775807/9223372036854775808"},
	} {
		same(t, "Of", fine[api.Rat](t)(grid.Of(row.num, row.den)), row.want)
	}
	for _, num := range []int{0, 1, least, greatest} {
		got, e := grid.Of(num, 0)
		refused(t, "Of by 0", got, e, api.ErrZero)
	}
}

func TestArithmetic(t *testing.T) {
	for _, row := range []struct {
		a, b, sum, difference, product, quotient api.Rat
	}{
		{"1/10", "1/15", "1/6", "1/30", "1/150", "3/2"},
		{"9/4", "-2/3", "19/12", "35/12", "-3/2", "-27/8"},
		{"-1/2", "-1/2", "-1", "0", "1/4", "1"},
		{"-1/2", "1/2", "0", "-1", "-1/4", "-1"},
		{"0", "-5", "-5", "5", "0", "0"},
		{"999999999", "1", "1000000000", "999999998", "999999999", "999999999"},
		{"1000000000", "-1", "999999999", "1000000001", "-1000000000", "-1000000000"},
		{"3", "5", "8", "-2", "15", "3/5"},
	} {
		same(t, "Add", fine[api.Rat](t)(grid.Add(row.a, row.b)), row.sum)
		same(t, "Sub", fine[api.Rat](t)(grid.Sub(row.a, row.b)), row.difference)
		same(t, "Mul", fine[api.Rat](t)(grid.Mul(row.a, row.b)), row.product)
		same(t, "Div", fine[api.Rat](t)(grid.Div(row.a, row.b)), row.quotient)
	}
}

// operations returns the functions of two numbers that return a third one, and what they have to return.
func operations() map[string]struct {
	of   func(a, b api.Rat) (api.Rat, api.Errno)
	want func(z, x, y *big.Rat) *big.Rat
} {
	return map[string]struct {
		of   func(a, b api.Rat) (api.Rat, api.Errno)
		want func(z, x, y *big.Rat) *big.Rat
	}{
		"Add": {grid.Add, (*big.Rat).Add}, "Sub": {grid.Sub, (*big.Rat).Sub}, "Mul": {grid.Mul, (*big.Rat).Mul}, "Div": {grid.Div, (*big.Rat).Quo},
	}
}

func TestArithmeticOfMany(t *testing.T) {
	r := dice()
	for _, most := range []int{3, 9, 10, 18, 19, 27, 40, 100, 300, 600} {
		for range 1500 / most {
			x, y := randomNumber(r, most), randomNumber(r, most)
			for what, o := range operations() {
				got, e := o.of(ratOf(x), ratOf(y))
				if what == "Div" && y.Sign() == 0 {
					refused(t, what, got, e, api.ErrZero)
					continue
				}
				want, wantE := limited(o.want(new(big.Rat), x, y))
				same(t, what, got, want)
				same(t, what, e, wantE)
			}
			n, e := grid.Order(ratOf(x), ratOf(y))
			same(t, "Order", n, x.Cmp(y))
			same(t, "Order", e, api.OK)
			floor := new(big.Int).Div(x.Num(), x.Denom())
			same(t, "Floor", fine[api.Rat](t)(grid.Floor(ratOf(x))), api.Rat(floor.String()))
			same(t, "Check", grid.Check(ratOf(x)), api.OK)
		}
	}
}

// Divisors with a digit for which the first guess of a digit of the quotient is too high.
func TestRareDivisions(t *testing.T) {
	texts := []string{"499999999999999999999999999", "500000000000000000999999999", "999999999000000000999999999", "1000000000000000000000000001", "500000000499999999999999999", "1999999999999999999", "1000000001999999999"}
	for _, a := range texts {
		for _, b := range texts {
			x, _ := new(big.Int).SetString(a, 10)
			y, _ := new(big.Int).SetString(b, 10)
			for delta := int64(-1); delta <= 1; delta++ {
				product := new(big.Int).Mul(x, y)
				product.Mul(product, y)
				product.Add(product, big.NewInt(delta))
				whole := new(big.Rat).SetFrac(product, y)
				same(t, "Div", fine[api.Rat](t)(grid.Div(api.Rat(product.String()), api.Rat(b))), ratOf(whole))
				floor := new(big.Int).Div(whole.Num(), whole.Denom())
				same(t, "Floor", fine[api.Rat](t)(grid.Floor(ratOf(whole))), api.Rat(floor.String()))
			}
		}
	}
}

func TestErrorsOfNumbers(t *testing.T) {
	long := api.Rat(digits(601))
	for what, o := range operations() {
		for _, row := range []struct {
			a, b api.Rat
			e    api.Errno
		}{
			{"x", "1", api.ErrForm}, {"1", "", api.ErrForm}, {"x", long, api.ErrForm}, {long, "x", api.ErrLarge}, {"1", long, api.ErrLarge}, {"2/4", long, api.ErrForm}, {"x", "0", api.ErrForm}, {long, "0", api.ErrLarge},
		} {
			got, e := o.of(row.a, row.b)
			refused(t, what, got, e, row.e)
			n, e := grid.Order(row.a, row.b)
			refused(t, "Order", n, e, row.e)
		}
	}
	for _, a := range []api.Rat{"1", "0", "-1/2"} {
		got, e := grid.Div(a, "0")
		refused(t, "Div by 0", got, e, api.ErrZero)
	}
	got, e := grid.Floor("1/1")
	refused(t, "Floor", got, e, api.ErrForm)
	got, e = grid.Floor(long)
	refused(t, "Floor", got, e, api.ErrLarge)
}

func TestLargeResults(t *testing.T) {
	most := api.Rat(digits(600))
	under := "1/" + most
	for _, row := range []struct {
		what string
		of   func(a, b api.Rat) (api.Rat, api.Errno)
		a, b api.Rat
	}{
		{"Add", grid.Add, most, "1"}, {"Add", grid.Add, "-" + most, "-1"}, {"Sub", grid.Sub, "-" + most, "1"}, {"Sub", grid.Sub, under, "1/2"}, {"Mul", grid.Mul, most, "2"}, {"Mul", grid.Mul, under, "1/2"}, {"Mul", grid.Mul, power(300), power(300)}, {"Div", grid.Div, power(300), "1/" + power(300)}, {"Div", grid.Div, under, "2"},
	} {
		got, e := row.of(row.a, row.b)
		refused(t, row.what, got, e, api.ErrLarge)
	}
	// What is too large on the way is no error.
	same(t, "Add", fine[api.Rat](t)(grid.Add("1/"+power(599), "1/"+power(599))), "1/5"+power(598)[1:])
	same(t, "Sub", fine[api.Rat](t)(grid.Sub(under, under)), "0")
	same(t, "Mul", fine[api.Rat](t)(grid.Mul(most, under)), "1")
	same(t, "Div", fine[api.Rat](t)(grid.Div(most, most)), "1")
	same(t, "Mul", fine[api.Rat](t)(grid.Mul(power(300), power(299))), power(599))
	same(t, "Add", fine[api.Rat](t)(grid.Add(power(599), "1")), power(598)+"1")
	same(t, "Floor", fine[api.Rat](t)(grid.Floor("-"+most+"/2")), "-5"+power(599)[1:])
	n, e := grid.Order(most, under)
	same(t, "Order", n, 1)
	same(t, "Order", e, api.OK)
}

func TestOrder(t *testing.T) {
	for _, row := range []struct {
		a, b api.Rat
		n    int
	}{{"-1/2", "-1/3", -1}, {"-1/3", "-1/2", 1}, {"1/2", "1/3", 1}, {"0", "0", 0}, {"-7", "-7", 0}, {"3/2", "3/2", 0}, {"-1", "1", -1}, {"1", "-1", 1}, {"0", "-1", 1}, {"0", "1", -1}, {"2", "10", -1}} {
		n, e := grid.Order(row.a, row.b)
		same(t, "Order", n, row.n)
		same(t, "Order", e, api.OK)
	}
}

func TestFloor(t *testing.T) {
	for _, row := range [][2]api.Rat{{"-5/2", "-3"}, {"5/2", "2"}, {"-5", "-5"}, {"5", "5"}, {"0", "0"}, {"1/2", "0"}, {"-1/2", "-1"}, {"-1999999999/2", "-1000000000"}} {
		same(t, "Floor", fine[api.Rat](t)(grid.Floor(row[0])), row[1])
	}
}
