package shop_test

import (
	"fmt"
	"math/big"
	"math/rand/v2"
	"slices"
	"strings"
	"testing"

	"cusp/api"
	"cusp/shop"
)

// P9.1: CheckProgram, Duration, Heat, Soak, Rate, Fits and Choose.

func TestProgramsOfTheExamples(t *testing.T) {
	p := firing()
	same(t, "Duration", fine[int](t)(shop.Duration(p)), 130)
	for minute, heat := range map[api.Rat]api.Rat{"0": "20", "20": "420", "40": "820", "45": "820", "50": "820", "90": "420", "130": "20", "1/2": "30", "20/3": "460/3"} {
		same(t, "Heat", fine[api.Rat](t)(shop.Heat(p, minute)), heat)
	}
	for at, soak := range map[int]api.Rat{420: "70", 820: "10", 821: "0", 20: "130", 0: "130", 2000: "0", 21: "2597/20"} {
		same(t, "Soak", fine[api.Rat](t)(shop.Soak(p, at)), soak)
	}
	same(t, "Rate", fine[api.Rat](t)(shop.Rate(p)), "20")
	for need, wanted := range map[shop.Need]int{
		{At: 820, Minutes: 10, Most: 900, Rate: 20}: 0,
		{At: 820, Minutes: 11, Most: 900, Rate: 20}: 1,
		{At: 820, Minutes: 10, Most: 800, Rate: 20}: 2,
		{At: 820, Minutes: 10, Most: 900, Rate: 19}: 3,
		{At: 820, Minutes: 11, Most: 800, Rate: 19}: 1,
		{At: 820, Minutes: 10, Most: 800, Rate: 19}: 2,
		{At: 820, Minutes: 10, Most: 820, Rate: 20}: 0,
		{At: 820, Minutes: 10, Most: 819, Rate: 20}: 2,
	} {
		same(t, "Fits", fine[int](t)(shop.Fits(p, need)), wanted)
	}
}

// TestTheRoom: at the beginning the furnace has 20 degrees, but it is not the end of a step.
func TestTheRoom(t *testing.T) {
	cold := program(step(4, 10), step(6, 10))
	same(t, "Heat at the beginning", fine[api.Rat](t)(shop.Heat(cold, "0")), "20")
	same(t, "Rate from the beginning", fine[api.Rat](t)(shop.Rate(cold)), "5/2")
	same(t, "Soak at the room's temperature", fine[api.Rat](t)(shop.Soak(cold, 20)), "0")
	same(t, "Soak below it", fine[api.Rat](t)(shop.Soak(cold, 15)), "2")
	same(t, "the hottest end of a step", fine[int](t)(shop.Fits(cold, shop.Need{At: 10, Minutes: 10, Most: 10, Rate: 3})), 0)
	same(t, "above the hottest one", fine[int](t)(shop.Fits(cold, shop.Need{At: 10, Minutes: 10, Most: 9, Rate: 3})), 2)
	same(t, "a soak of no minutes", fine[int](t)(shop.Fits(cold, shop.Need{At: 2000, Most: 10, Rate: 2})), 3)
	same(t, "no temperature at all", fine[int](t)(shop.Fits(program(step(1, 0)), shop.Need{Rate: 20})), 0)
	even := program(step(1440, 20))
	same(t, "Rate of the same temperature", fine[api.Rat](t)(shop.Rate(even)), "0")
	same(t, "Soak of the same temperature", fine[api.Rat](t)(shop.Soak(even, 20)), "1440")
	same(t, "a need of nothing", fine[int](t)(shop.Fits(even, shop.Need{Most: 20})), 0)
}

// nines returns a number of n digits: 10^n less some.
func nines(n int, less int64) *big.Int {
	v := new(big.Int).Exp(big.NewInt(10), big.NewInt(int64(n)), nil)
	return v.Sub(v, big.NewInt(less))
}

// randomMinute returns a minute of a program, also one at the ends of its steps, or with hundreds of digits.
func randomMinute(r *rand.Rand, p shop.Program) *big.Rat {
	all := minutes(p)
	switch r.IntN(4) {
	case 0:
		return whole(r.IntN(all + 1))
	case 1:
		under := between(r, 1, 60)
		return big.NewRat(int64(r.IntN(all*under+1)), int64(under))
	}
	// Denominators that have a divisor in common with minutes and degrees, or not.
	factor := []int64{1, 1, 7, 2 * 3 * 5, 1440, 2000}[r.IntN(6)]
	under := new(big.Int).Div(nines(between(r, 590, 600), r.Int64N(1000000)), big.NewInt(factor))
	under.Mul(under, big.NewInt(factor))
	v := new(big.Rat).SetFrac(nines(between(r, 585, 600), r.Int64N(1000000)), under)
	v.Add(v, new(big.Rat).SetFrac(big.NewInt(r.Int64N(3)), under))
	if r.IntN(2) == 0 {
		v.Sub(whole(all), v)
	}
	if v.Sign() < 0 || v.Cmp(whole(all)) > 0 || isLarge(v) {
		return randomMinute(r, p)
	}
	return v
}

func TestHeat(t *testing.T) {
	r := dice()
	fits, large := 0, 0
	for range 2000 {
		p := randomProgram(r, 3, 4, 30)
		if r.IntN(2) == 0 {
			p = randomProgram(r, 16, 1440, 2000)
		}
		minute := randomMinute(r, p)
		got, e := shop.Heat(p, text(minute))
		heat := heatAt(p, minute)
		if isLarge(heat) {
			refused(t, "Heat", got, e, api.ErrLarge)
			large++
			continue
		}
		same(t, "Heat", e, api.OK)
		same(t, "Heat", got, text(heat))
		if len(got) > 1000 {
			fits++
		}
	}
	if fits < 100 || large < 100 {
		t.Errorf("%d long temperatures, %d that are too long", fits, large)
	}
}

// inverse returns 1 divided by a number.
func inverse(v *big.Int) *big.Rat { return new(big.Rat).SetFrac(big.NewInt(1), v) }

// TestHeatOfLongMinutes: only the temperature itself may have too many digits, not what is computed on the way.
func TestHeatOfLongMinutes(t *testing.T) {
	long := nines(600, 29)
	half := new(big.Int).Rsh(long, 1)
	tenth := new(big.Int).Add(nines(599, 0), big.NewInt(3))
	for i, x := range []struct {
		p      shop.Program
		minute *big.Rat
		e      api.Errno
	}{
		{program(step(1, 2000), step(1, 0)), new(big.Rat).Sub(whole(2), inverse(half)), api.OK},
		{program(step(1, 0)), new(big.Rat).Sub(whole(1), inverse(long)), api.OK},
		{program(step(7, 20)), inverse(long), api.OK},
		{program(step(1, 1020)), inverse(nines(599, 0)), api.OK},
		{program(step(1, 0), step(11, 11)), new(big.Rat).Add(whole(1), inverse(tenth)), api.OK},
		{program(step(1, 0), step(11, 1)), new(big.Rat).Add(whole(1), inverse(tenth)), api.ErrLarge}, // by its denominator alone
		{program(step(1, 1020)), inverse(long), api.ErrLarge},                                        // by its numerator alone
		{program(step(1, 0)), inverse(long), api.ErrLarge},
	} {
		heat := heatAt(x.p, x.minute)
		same(t, "the minute is too long", isLarge(x.minute), false)
		same(t, fmt.Sprint("the temperature is too long ", i), isLarge(heat), x.e == api.ErrLarge)
		got, e := shop.Heat(x.p, text(x.minute))
		if x.e != api.OK {
			refused(t, fmt.Sprint("Heat ", i), got, e, x.e)
			continue
		}
		same(t, fmt.Sprint("the error of Heat ", i), e, api.OK)
		same(t, fmt.Sprint("Heat ", i), got, text(heat))
	}
}

// soakOf returns the soak by the definition: from each minute at which it may begin or end to the next one it is asked in the middle.
func soakOf(p shop.Program, at int) *big.Rat {
	var ends []*big.Rat
	start, before := 0, 20
	for _, s := range p.Steps {
		ends = append(ends, whole(start), whole(start+s.Minutes))
		if s.To != before {
			cross := big.NewRat(int64(s.Minutes*(at-before)), int64(s.To-before))
			ends = append(ends, cross.Add(cross, whole(start)))
		}
		start, before = start+s.Minutes, s.To
	}
	ends = slices.DeleteFunc(ends, func(v *big.Rat) bool { return v.Sign() < 0 || v.Cmp(whole(start)) > 0 })
	slices.SortFunc(ends, (*big.Rat).Cmp)
	total := new(big.Rat)
	for i, v := range ends[1:] {
		middle := new(big.Rat).Mul(new(big.Rat).Add(ends[i], v), big.NewRat(1, 2))
		if heatAt(p, middle).Cmp(whole(at)) >= 0 {
			total.Add(total, new(big.Rat).Sub(v, ends[i]))
		}
	}
	return total
}

// rateOf returns the rate by the definition.
func rateOf(p shop.Program) *big.Rat {
	rate, before := new(big.Rat), 20
	for _, s := range p.Steps {
		r := big.NewRat(int64(s.To-before), int64(s.Minutes))
		if r.Abs(r).Cmp(rate) > 0 {
			rate = r
		}
		before = s.To
	}
	return rate
}

func TestSoakAndRate(t *testing.T) {
	r := dice()
	for i := range 3000 {
		p := randomProgram(r, 5, 9, 40)
		at := r.IntN(45)
		if i%3 == 0 {
			p, at = randomProgram(r, 16, 1440, 2000), r.IntN(2001)
		}
		if r.IntN(3) == 0 {
			at = p.Steps[r.IntN(len(p.Steps))].To
		}
		same(t, "Duration", fine[int](t)(shop.Duration(p)), minutes(p))
		same(t, "Soak", fine[api.Rat](t)(shop.Soak(p, at)), text(soakOf(p, at)))
		same(t, "Rate", fine[api.Rat](t)(shop.Rate(p)), text(rateOf(p)))
	}
}

// brokenBy returns the number of the first condition of a need that is broken, by the definition.
func brokenBy(p shop.Program, n shop.Need) int {
	switch {
	case soakOf(p, n.At).Cmp(whole(n.Minutes)) < 0:
		return 1
	case slices.ContainsFunc(p.Steps, func(s shop.Step) bool { return s.To > n.Most }):
		return 2
	case rateOf(p).Cmp(whole(n.Rate)) > 0:
		return 3
	}
	return 0
}

// randomNeed returns a need that some small programs fit.
func randomNeed(r *rand.Rand) shop.Need {
	return shop.Need{At: between(r, 0, 40), Minutes: between(r, 0, 6), Most: between(r, 20, 40), Rate: between(r, 0, 20)}
}

func TestFitsAndChoose(t *testing.T) {
	r := dice()
	seen, numbers := map[int]int{}, map[int]int{}
	for range 3000 {
		n := randomNeed(r)
		var l []shop.Program
		for range r.IntN(6) {
			l = append(l, randomProgram(r, 3, 4, 40))
		}
		wanted, shortest := -1, 0
		for i, p := range l {
			broken := brokenBy(p, n)
			same(t, "Fits", fine[int](t)(shop.Fits(p, n)), broken)
			seen[broken]++
			if broken == 0 && (wanted < 0 || minutes(p) < shortest) {
				wanted, shortest = i, minutes(p)
			}
		}
		got, e := shop.Choose(l, n)
		if wanted < 0 {
			refused(t, "Choose", got, e, api.ErrNone)
			continue
		}
		same(t, "Choose", e, api.OK)
		same(t, "Choose", got, wanted)
		numbers[wanted]++
	}
	for i := range 4 {
		if seen[i] < 300 || numbers[i] < 30 {
			t.Errorf("conditions that are broken: %v, numbers of chosen programs: %v", seen, numbers)
		}
	}
}

// TestChooseOfSeveral: the first one of the shortest ones is chosen, also of 256 programs with the same name.
func TestChooseOfSeveral(t *testing.T) {
	long := firing()
	long.Steps[1].Minutes = 11
	need := shop.Need{At: 820, Minutes: 10, Most: 820, Rate: 20}
	l := append(many(254, long), firing(), firing())
	same(t, "the first one of the shortest ones", fine[int](t)(shop.Choose(l, need)), 254)
	need.Minutes = 11
	same(t, "the first one of those that fit", fine[int](t)(shop.Choose(l, need)), 0)
	need.Minutes = 12
	got, e := shop.Choose(l, need)
	refused(t, "none fits", got, e, api.ErrNone)
	got, e = shop.Choose(nil, need)
	refused(t, "of none", got, e, api.ErrNone)
}

// badPrograms are programs with their errors.
func badPrograms() []struct {
	p shop.Program
	e api.Errno
} {
	type bad = struct {
		p shop.Program
		e api.Errno
	}
	l := []bad{
		{program(), api.ErrEmpty},
		{program(many(17, step(0, -1))...), api.ErrMany},
		{shop.Program{Name: "", Steps: many(17, step(1, 1))}, api.ErrName},
	}
	for _, s := range badNames() {
		l = append(l, bad{shop.Program{Name: s}, api.ErrName})
	}
	for _, s := range []shop.Step{step(0, 1), step(-1, 1), step(1441, 1), step(1, -1), step(1, 2001), step(least, 1), step(greatest, 1), step(1, least), step(1, greatest)} {
		l = append(l, bad{program(s), api.ErrRange}, bad{program(append(many(15, step(1, 1)), s)...), api.ErrRange})
	}
	return l
}

func TestErrorsOfPrograms(t *testing.T) {
	need := shop.Need{Most: 2000, Rate: 2000}
	for _, x := range badPrograms() {
		same(t, "CheckProgram", shop.CheckProgram(x.p), x.e)
		d, e := shop.Duration(x.p)
		refused(t, "Duration", d, e, x.e)
		h, e := shop.Heat(x.p, "x")
		refused(t, "Heat", h, e, x.e)
		h, e = shop.Soak(x.p, -1)
		refused(t, "Soak", h, e, x.e)
		h, e = shop.Rate(x.p)
		refused(t, "Rate", h, e, x.e)
		n, e := shop.Fits(x.p, shop.Need{At: -1})
		refused(t, "Fits", n, e, x.e)
		n, e = shop.Choose([]shop.Program{firing(), x.p, {}}, shop.Need{At: -1})
		refused(t, "Choose", n, e, x.e)
		n, e = shop.Choose(many(257, x.p), need)
		refused(t, "Choose of too many", n, e, api.ErrMany)
	}
	n, e := shop.Choose(many(257, firing()), need)
	refused(t, "Choose of too many", n, e, api.ErrMany)
	same(t, "Choose of many", fine[int](t)(shop.Choose(many(256, firing()), need)), 0)
}

// TestProgramsAtTheLimits: what is just permitted.
func TestProgramsAtTheLimits(t *testing.T) {
	p := shop.Program{Name: longName, Steps: append(many(15, step(1440, 2000)), step(1, 0))}
	same(t, "CheckProgram", shop.CheckProgram(p), api.OK)
	same(t, "Duration", fine[int](t)(shop.Duration(p)), 15*1440+1)
	same(t, "Rate", fine[api.Rat](t)(shop.Rate(p)), "2000")
	same(t, "Soak", fine[api.Rat](t)(shop.Soak(p, 2000)), "20160")
	same(t, "a need that it just fits", fine[int](t)(shop.Fits(p, shop.Need{At: 2000, Minutes: 1440, Most: 2000, Rate: 2000})), 0)
}

func TestErrorsOfMinutes(t *testing.T) {
	p := firing()
	for minute, wanted := range map[api.Rat]api.Errno{
		"": api.ErrForm, "x": api.ErrForm, "1.5": api.ErrForm, "2/4": api.ErrForm, "01": api.ErrForm, "-0": api.ErrForm, "3/1": api.ErrForm, "3/0": api.ErrForm,
		"-1": api.ErrRange, "-1/2": api.ErrRange, "131": api.ErrRange, "261/2": api.ErrRange,
		api.Rat(strings.Repeat("1", 601)):         api.ErrLarge,
		"-" + api.Rat(strings.Repeat("1", 601)):   api.ErrLarge,
		api.Rat(strings.Repeat("1", 600)):         api.ErrRange,
		"-1/" + api.Rat(strings.Repeat("1", 600)): api.ErrRange,
		"1/" + api.Rat(strings.Repeat("1", 601)):  api.ErrLarge,
	} {
		got, e := shop.Heat(p, minute)
		refused(t, "Heat at "+short(minute), got, e, wanted)
	}
	for _, at := range []int{-1, 2001, least, greatest} {
		got, e := shop.Soak(p, at)
		refused(t, "Soak", got, e, api.ErrRange)
	}
}

func TestErrorsOfNeeds(t *testing.T) {
	for _, change := range []func(n *shop.Need, value int){
		func(n *shop.Need, value int) { n.At = value },
		func(n *shop.Need, value int) { n.Minutes = value },
		func(n *shop.Need, value int) { n.Most = value },
		func(n *shop.Need, value int) { n.Rate = value },
	} {
		for _, value := range []int{-1, 2001, least, greatest} {
			n := shop.Need{Most: 2000, Rate: 2000}
			change(&n, value)
			got, e := shop.Fits(firing(), n)
			refused(t, "Fits", got, e, api.ErrRange)
			got, e = shop.Choose(nil, n)
			refused(t, "Choose", got, e, api.ErrRange)
		}
		for _, value := range []int{0, 1440} {
			n := shop.Need{}
			change(&n, value)
			_, e := shop.Fits(firing(), n)
			same(t, "Fits", e, api.OK)
		}
	}
	got, e := shop.Fits(firing(), shop.Need{Minutes: 1441})
	refused(t, "Fits", got, e, api.ErrRange)
}

// TestMemoryOfPrograms: arguments stay as they are.
func TestMemoryOfPrograms(t *testing.T) {
	l := []shop.Program{firing(), program(step(30, 900), step(20, 900))}
	need := shop.Need{At: 820, Minutes: 10, Most: 2000, Rate: 2000}
	for _, p := range l {
		shop.CheckProgram(p)
		shop.Duration(p)
		shop.Heat(p, "31/3")
		shop.Soak(p, 800)
		shop.Rate(p)
		shop.Fits(p, need)
	}
	shop.Choose(l, need)
	same(t, "the programs", l, []shop.Program{firing(), program(step(30, 900), step(20, 900))})
}
