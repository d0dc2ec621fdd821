package shop

import (
	"slices"

	"cusp/api"
)

// colour is the three numbers of a colour, or of one whose numbers are all as many times as large.
type colour = [3]int

func checkColour(c colour) api.Errno { return allWithin(c[:], 0, MaxColour) }

// CheckGuide returns the first error of a guide, or OK.
func CheckGuide(g Guide) api.Errno {
	e := first(
		allWithin(g.Weights[:], 1, 100),
		when(len(g.Tabs) == 0, api.ErrEmpty),
		when(len(g.Tabs) > MaxTabs, api.ErrMany),
	)
	if e != api.OK {
		return e
	}
	seen := names{}
	for _, t := range g.Tabs {
		if e := first(checkName(t.Name), seen.add(t.Name), checkColour(t.Colour)); e != api.OK {
			return e
		}
	}
	return api.OK
}

// target is a colour that is wanted, with the weights by which others are compared with it.
type target struct {
	weights colour
	colour  colour
}

// distance returns the distance of a colour from the one that is wanted.
func (t target) distance(c colour) int {
	if c == t.colour {
		return 0
	}
	total := 0
	for i, weight := range t.weights {
		difference := c[i] - t.colour[i]
		total += weight * difference * difference
	}
	return total
}

// Distance returns the distance of two colours.
func Distance(g Guide, a, b [3]int) (int, api.Errno) {
	if e := first(CheckGuide(g), checkColour(a), checkColour(b)); e != api.OK {
		return 0, e
	}
	return target{g.Weights, a}.distance(b), api.OK
}

// nearest returns the number of the first one of the colours with the least distance; there is at least one.
func nearest(l []colour, distance func(colour) int) int {
	distances := listOf(l, distance)
	return slices.Index(distances, slices.Min(distances))
}

// Nearest returns the number of the nearest tab to a colour.
func Nearest(g Guide, c [3]int) (int, api.Errno) {
	if e := first(CheckGuide(g), checkColour(c)); e != api.OK {
		return 0, e
	}
	colours := listOf(g.Tabs, func(t Tab) colour { return t.Colour })
	return nearest(colours, target{g.Weights, c}.distance), api.OK
}

// mixed returns the sum of two colours, each one so many times.
func mixed(n int, a colour, m int, b colour) colour {
	var c colour
	for i := range c {
		c[i] = n*a[i] + m*b[i]
	}
	return c
}

// mixes returns all mixes of n tabs, in their order.
func mixes(n int) []Mix {
	var l []Mix
	for i := range n {
		for k := i + 1; k < n; k++ {
			for eighths := 1; eighths < 8; eighths++ {
				l = append(l, Mix{First: i, Second: k, Eighths: eighths})
			}
		}
	}
	return l
}

// Mixed returns the best mix of two tabs.
func Mixed(g Guide, c [3]int) (Mix, api.Errno) {
	if e := first(CheckGuide(g), checkColour(c), when(len(g.Tabs) < 2, api.ErrNone)); e != api.OK {
		return Mix{}, e
	}
	// Eight times as large, all colours are integers.
	l := mixes(len(g.Tabs))
	colours := listOf(l, func(m Mix) colour {
		return mixed(8-m.Eighths, g.Tabs[m.First].Colour, m.Eighths, g.Tabs[m.Second].Colour)
	})
	wanted := mixed(8, c, 0, c)
	return l[nearest(colours, target{g.Weights, wanted}.distance)], api.OK
}
