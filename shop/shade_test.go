package shop_test

import (
	"math/big"
	"testing"

	"cusp/api"
	"cusp/shop"
)

// P9.5: CheckGuide, Distance, Nearest and Mixed.

func grey(n int) [3]int { return [3]int{n, n, n} }

func TestShadesOfTheExamples(t *testing.T) {
	g := guide([3]int{2, 3, 1}, grey(0), grey(80), grey(80))
	same(t, "Distance", fine[int](t)(shop.Distance(g, [3]int{10, 20, 30}, [3]int{12, 19, 33})), 20)
	same(t, "Distance from itself", fine[int](t)(shop.Distance(g, grey(9), grey(9))), 0)
	same(t, "Mixed", fine[shop.Mix](t)(shop.Mixed(g, grey(50))), shop.Mix{First: 0, Second: 1, Eighths: 5})
	same(t, "Mixed of two that are alike", fine[shop.Mix](t)(shop.Mixed(g, grey(80))), shop.Mix{First: 1, Second: 2, Eighths: 1})
	same(t, "Mixed between two eighths", fine[shop.Mix](t)(shop.Mixed(g, grey(45))), shop.Mix{First: 0, Second: 1, Eighths: 4})
	same(t, "Mixed of the second one", fine[shop.Mix](t)(shop.Mixed(guide(grey(1), grey(80), grey(0)), grey(50))), shop.Mix{First: 0, Second: 1, Eighths: 3})
	same(t, "Nearest", fine[int](t)(shop.Nearest(g, grey(41))), 1)
	same(t, "Nearest of two as far", fine[int](t)(shop.Nearest(g, grey(40))), 0)
	same(t, "the weights decide", fine[int](t)(shop.Nearest(guide([3]int{1, 4, 1}, [3]int{0, 2, 0}, [3]int{3, 0, 0}), grey(0))), 1)
}

// apart returns the distance of two colours by the definition, also of such with fractions.
func apart(weights [3]int, a, b [3]*big.Rat) *big.Rat {
	total := new(big.Rat)
	for i, w := range weights {
		v := new(big.Rat).Sub(a[i], b[i])
		total.Add(total, v.Mul(v.Mul(v, v), whole(w)))
	}
	return total
}

func exactly(c [3]int) [3]*big.Rat { return [3]*big.Rat{whole(c[0]), whole(c[1]), whole(c[2])} }

// colourOf returns the colour of a mix by the definition.
func colourOf(g shop.Guide, m shop.Mix) [3]*big.Rat {
	var c [3]*big.Rat
	for i := range c {
		c[i] = big.NewRat(int64((8-m.Eighths)*g.Tabs[m.First].Colour[i]+m.Eighths*g.Tabs[m.Second].Colour[i]), 8)
	}
	return c
}

func TestShades(t *testing.T) {
	r := dice()
	numbers, eighths := map[int]int{}, map[int]int{}
	for range 1500 {
		high := []int{2, 20, 255}[r.IntN(3)]
		g := randomGuide(r, 7, high)
		c := randomColour(r, high)
		nearest := 0
		var shortest *big.Rat
		for i, tab := range g.Tabs {
			v := apart(g.Weights, exactly(c), exactly(tab.Colour))
			same(t, "Distance", text(whole(fine[int](t)(shop.Distance(g, c, tab.Colour)))), text(v))
			if shortest == nil || v.Cmp(shortest) < 0 {
				nearest, shortest = i, v
			}
		}
		same(t, "Nearest", fine[int](t)(shop.Nearest(g, c)), nearest)
		numbers[nearest]++
		var best shop.Mix
		shortest = nil
		for i := range g.Tabs {
			for k := range g.Tabs[i+1:] {
				for n := 1; n <= 7; n++ {
					m := shop.Mix{First: i, Second: i + 1 + k, Eighths: n}
					if v := apart(g.Weights, exactly(c), colourOf(g, m)); shortest == nil || v.Cmp(shortest) < 0 {
						best, shortest = m, v
					}
				}
			}
		}
		got, e := shop.Mixed(g, c)
		if len(g.Tabs) < 2 {
			refused(t, "Mixed", got, e, api.ErrNone)
			continue
		}
		same(t, "Mixed", e, api.OK)
		same(t, "Mixed", got, best)
		eighths[got.Eighths]++
	}
	for i := range 7 {
		if numbers[i] < 20 || eighths[i+1] < 20 {
			t.Errorf("nearest tabs %v, eighths of mixes %v", numbers, eighths)
		}
	}
}

// TestShadesAtTheLimits: the greatest weights and colours, and as many tabs as there may be.
func TestShadesAtTheLimits(t *testing.T) {
	g := guide(grey(100), many(32, grey(0))...)
	g.Tabs[31].Colour = grey(255)
	g.Tabs[30].Name = longName
	same(t, "CheckGuide", shop.CheckGuide(g), api.OK)
	same(t, "the greatest distance", fine[int](t)(shop.Distance(g, grey(255), grey(0))), 300*255*255)
	same(t, "the last tab", fine[int](t)(shop.Nearest(g, grey(128))), 31)
	same(t, "the first tab", fine[int](t)(shop.Nearest(g, grey(127))), 0)
	same(t, "the first mix with the last one", fine[shop.Mix](t)(shop.Mixed(g, grey(255))), shop.Mix{First: 0, Second: 31, Eighths: 7})
	one := guide(grey(1), grey(7))
	same(t, "one tab", fine[int](t)(shop.Nearest(one, grey(255))), 0)
	got, e := shop.Mixed(one, grey(7))
	refused(t, "a mix of one", got, e, api.ErrNone)
}

func TestErrorsOfGuides(t *testing.T) {
	type bad struct {
		g shop.Guide
		e api.Errno
	}
	named := func(names ...string) shop.Guide {
		g := guide(grey(1))
		for _, s := range names {
			g.Tabs = append(g.Tabs, shop.Tab{Name: s})
		}
		return g
	}
	twice := named("a", "b", "a")
	twice.Tabs[2].Colour = grey(-1)
	early := named("a", "")
	early.Tabs[0].Colour = grey(-1)
	l := []bad{
		{named(), api.ErrEmpty},
		{guide(grey(0)), api.ErrRange},
		{guide(grey(101), many(33, grey(0))...), api.ErrRange},
		{guide(grey(1), many(33, grey(-1))...), api.ErrMany},
		{twice, api.ErrTwice},
		{early, api.ErrRange},
	}
	for i := range 3 {
		for _, n := range []int{0, -1, 101, least, greatest} {
			weights := grey(1)
			weights[i] = n
			l = append(l, bad{guide(weights, grey(0)), api.ErrRange})
		}
		for _, n := range []int{-1, 256, least, greatest} {
			colour := grey(0)
			colour[i] = n
			l = append(l, bad{guide(grey(1), grey(0), colour), api.ErrRange})
		}
	}
	for _, s := range badNames() {
		l = append(l, bad{named("a", s), api.ErrName})
	}
	for _, x := range l {
		same(t, "CheckGuide", shop.CheckGuide(x.g), x.e)
		n, e := shop.Distance(x.g, grey(-1), grey(0))
		refused(t, "Distance", n, e, x.e)
		n, e = shop.Nearest(x.g, grey(-1))
		refused(t, "Nearest", n, e, x.e)
		m, e := shop.Mixed(x.g, grey(-1))
		refused(t, "Mixed", m, e, x.e)
	}
	same(t, "names that differ", shop.CheckGuide(named("a", "A", "b")), api.OK)
}

func TestErrorsOfColours(t *testing.T) {
	for i := range 3 {
		for _, n := range []int{-1, 256, least, greatest} {
			for _, g := range []shop.Guide{guide(grey(1), grey(0)), guide(grey(1), grey(0), grey(1))} {
				colour := grey(0)
				colour[i] = n
				got, e := shop.Distance(g, colour, grey(0))
				refused(t, "Distance", got, e, api.ErrRange)
				got, e = shop.Distance(g, grey(0), colour)
				refused(t, "Distance", got, e, api.ErrRange)
				got, e = shop.Distance(g, colour, colour)
				refused(t, "Distance", got, e, api.ErrRange)
				got, e = shop.Nearest(g, colour)
				refused(t, "Nearest", got, e, api.ErrRange)
				m, e := shop.Mixed(g, colour)
				refused(t, "Mixed", m, e, api.ErrRange)
			}
		}
	}
}

// TestMemoryOfShades: arguments stay as they are.
func TestMemoryOfShades(t *testing.T) {
	g := guide([3]int{2, 3, 1}, grey(0), grey(80))
	shop.CheckGuide(g)
	shop.Distance(g, grey(1), grey(2))
	shop.Nearest(g, grey(1))
	shop.Mixed(g, grey(1))
	same(t, "the guide", g, guide([3]int{2, 3, 1}, grey(0), grey(80)))
}
