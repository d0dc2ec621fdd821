package grid_test

import (
	"math/big"
	"testing"

	"cusp/api"
	"cusp/grid"
)

type spanOperation struct {
	what string
	of   func(a, b api.Span) (api.Span, api.Errno)
	one  func(z, x, y *big.Rat) *big.Rat
}

func spanOperations() []spanOperation {
	return []spanOperation{
		{"Plus", grid.Plus, (*big.Rat).Add}, {"Minus", grid.Minus, (*big.Rat).Sub}, {"Times", grid.Times, (*big.Rat).Mul}, {"Over", grid.Over, (*big.Rat).Quo},
	}
}

func TestCheckSpan(t *testing.T) {
	long := api.Rat(digits(601))
	for _, row := range []struct {
		s api.Span
		e api.Errno
	}{
		{span("1", "2"), api.OK}, {span("2", "2"), api.OK}, {span("-1/2", "-1/3"), api.OK}, {span("2", "1"), api.ErrOrder}, {span("-1/3", "-1/2"), api.ErrOrder},
		{span("", "1"), api.ErrForm}, {span("1", "2/4"), api.ErrForm}, {span("x", long), api.ErrForm}, {span(long, "x"), api.ErrLarge}, {span("5", long), api.ErrLarge}, {api.Span{}, api.ErrForm},
	} {
		same(t, "CheckSpan", grid.CheckSpan(row.s), row.e)
	}
}

func TestSpans(t *testing.T) {
	for _, row := range []struct {
		a, b, sum, difference, product api.Span
	}{
		{span("-1", "2"), span("-3", "4"), span("-4", "6"), span("-5", "5"), span("-6", "8")},
		{span("1", "2"), span("4", "8"), span("5", "10"), span("-7", "-2"), span("4", "16")},
		{span("-2", "-1"), span("4", "8"), span("2", "7"), span("-10", "-5"), span("-16", "-4")},
		{span("-2", "-1"), span("-8", "-4"), span("-10", "-5"), span("2", "7"), span("4", "16")},
		{span("-2", "3"), span("-5", "-4"), span("-7", "-1"), span("2", "8"), span("-15", "10")},
		{span("0", "0"), span("-1/2", "1/3"), span("-1/2", "1/3"), span("-1/3", "1/2"), span("0", "0")},
	} {
		same(t, "Plus", fine[api.Span](t)(grid.Plus(row.a, row.b)), row.sum)
		same(t, "Minus", fine[api.Span](t)(grid.Minus(row.a, row.b)), row.difference)
		same(t, "Times", fine[api.Span](t)(grid.Times(row.a, row.b)), row.product)
	}
	for _, row := range [][3]api.Span{
		{span("1", "2"), span("4", "8"), span("1/8", "1/2")}, {span("-1", "2"), span("4", "8"), span("-1/4", "1/2")}, {span("-1", "2"), span("-8", "-4"), span("-1/2", "1/4")}, {span("1", "2"), span("-8", "-4"), span("-1/2", "-1/8")}, {span("0", "0"), span("1", "2"), span("0", "0")},
	} {
		same(t, "Over", fine[api.Span](t)(grid.Over(row[0], row[1])), row[2])
	}
	for _, s := range []api.Span{span("0", "0"), span("0", "8"), span("-8", "0"), span("-1", "1/2")} {
		got, e := grid.Over(span("1", "2"), s)
		refused(t, "Over", got, e, api.ErrZero)
	}
}

func TestSpansOfMany(t *testing.T) {
	r := dice()
	for range 300 {
		ends := [4]*big.Rat{}
		for i := range ends {
			ends[i] = randomNumber(r, 1+r.IntN(30))
		}
		for i := 0; i < 4; i += 2 {
			if ends[i].Cmp(ends[i+1]) > 0 {
				ends[i], ends[i+1] = ends[i+1], ends[i]
			}
		}
		a, b := span(ratOf(ends[0]), ratOf(ends[1])), span(ratOf(ends[2]), ratOf(ends[3]))
		for _, o := range spanOperations() {
			got, e := o.of(a, b)
			if o.what == "Over" && ends[2].Sign() <= 0 && ends[3].Sign() >= 0 {
				refused(t, o.what, got, e, api.ErrZero)
				continue
			}
			var low, high *big.Rat
			for _, x := range ends[:2] {
				for _, y := range ends[2:] {
					z := o.one(new(big.Rat), x, y)
					if low == nil || z.Cmp(low) < 0 {
						low = z
					}
					if high == nil || z.Cmp(high) > 0 {
						high = z
					}
				}
			}
			same(t, o.what, got, span(ratOf(low), ratOf(high)))
			same(t, o.what, e, api.OK)
		}
	}
}

func TestErrorsOfSpans(t *testing.T) {
	good, long := span("1", "2"), span("1", api.Rat(digits(601)))
	bad, turned := span("x", "1"), span("2", "1")
	for _, o := range spanOperations() {
		for _, row := range []struct {
			a, b api.Span
			e    api.Errno
		}{
			{bad, good, api.ErrForm}, {good, bad, api.ErrForm}, {turned, bad, api.ErrOrder}, {bad, turned, api.ErrForm}, {long, turned, api.ErrLarge}, {good, turned, api.ErrOrder}, {turned, span("0", "0"), api.ErrOrder}, {good, span("1", "0"), api.ErrOrder},
		} {
			got, e := o.of(row.a, row.b)
			refused(t, o.what, got, e, row.e)
		}
	}
}

func TestLargeSpans(t *testing.T) {
	most := api.Rat(digits(600))
	one, two := span("1", "1"), span("2", "2")
	for _, row := range []struct {
		what string
		of   func(a, b api.Span) (api.Span, api.Errno)
		a, b api.Span
	}{
		{"Plus", grid.Plus, span("0", most), one}, {"Plus", grid.Plus, span("-"+most, "0"), span("-1", "1")}, {"Minus", grid.Minus, span("-"+most, "0"), one}, {"Minus", grid.Minus, span("0", most), span("-1", "0")}, {"Times", grid.Times, span("1", most), two}, {"Times", grid.Times, span("1/"+most, "1"), span("1/2", "1")}, {"Over", grid.Over, span("1", most), span("1/2", "1")}, {"Over", grid.Over, span("1/"+most, "1"), two},
	} {
		got, e := row.of(row.a, row.b)
		refused(t, row.what, got, e, api.ErrLarge)
	}
	// The product of both upper ends has too many digits, but it is no end of the result.
	got := fine[api.Span](t)(grid.Times(span("-1", "1/"+most), span("-1", "1/"+power(599))))
	same(t, "Times", got, span("-1/"+power(599), "1"))
}

func TestRoot(t *testing.T) {
	for _, row := range []struct {
		a api.Rat
		s api.Span
	}{
		{"2", span("707/500", "283/200")}, {"9/16", span("3/4", "3/4")}, {"0", span("0", "0")}, {"1", span("1", "1")}, {"4", span("2", "2")}, {"1/10000000", span("0", "1/1000")}, {"1/1000000", span("1/1000", "1/1000")}, {"3", span("433/250", "1733/1000")}, {"1/2", span("707/1000", "177/250")}, {"2/9", span("471/1000", "59/125")}, {"9/2", span("2121/1000", "1061/500")},
		{"999999999999999999999999998000000000000000000000000001", span("999999999999999999999999999", "999999999999999999999999999")},
		{power(598), span(power(299), power(299))}, {"1/" + power(598), span("1/"+power(299), "1/"+power(299))}, {"1/" + power(599), span("0", "1/1000")},
		{"999999", span("999999/1000", "1000")},
	} {
		same(t, "Root", fine[api.Span](t)(grid.Root(row.a)), row.s)
	}
	for _, row := range []struct {
		a api.Rat
		e api.Errno
	}{{"-1", api.ErrRange}, {"-1/4", api.ErrRange}, {"x", api.ErrForm}, {"4/2", api.ErrForm}, {"-2/4", api.ErrForm}, {api.Rat(digits(601)), api.ErrLarge}, {api.Rat("-" + digits(601)), api.ErrLarge}} {
		got, e := grid.Root(row.a)
		refused(t, "Root", got, e, row.e)
	}
}

func TestRootOfMany(t *testing.T) {
	r := dice()
	for range 300 {
		most := 1 + r.IntN(100)
		if r.IntN(20) == 0 {
			most = 600
		}
		x := randomNumber(r, most)
		x.Abs(x)
		if r.IntN(3) == 0 && most <= 100 {
			x.Mul(x, x)
		}
		top, bottom := new(big.Int).Sqrt(x.Num()), new(big.Int).Sqrt(x.Denom())
		root := new(big.Rat).SetFrac(top, bottom)
		want := span(ratOf(root), ratOf(root))
		if new(big.Rat).Mul(root, root).Cmp(x) != 0 {
			n := new(big.Int).Mul(x.Num(), big.NewInt(1000000))
			n.Sqrt(n.Quo(n, x.Denom()))
			low := new(big.Rat).SetFrac(n, big.NewInt(1000))
			want = span(ratOf(low), ratOf(new(big.Rat).Add(low, big.NewRat(1, 1000))))
		}
		same(t, "Root", fine[api.Span](t)(grid.Root(ratOf(x))), want)
	}
}
