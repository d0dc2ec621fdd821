package shop_test

import (
	"math/big"
	"slices"
	"testing"

	"cusp/api"
	"cusp/shop"
)

// P9.6: what follows from the other promises.

// TestTheSoakFalls: as the temperature rises.
func TestTheSoakFalls(t *testing.T) {
	r := dice()
	for range 300 {
		p := randomProgram(r, 16, 1440, 2000)
		before := whole(minutes(p))
		for at := 0; at <= 2000; at += between(r, 1, 200) {
			soak := ratio(fine[api.Rat](t)(shop.Soak(p, at)))
			same(t, "a soak that rises", soak.Cmp(before) <= 0 && soak.Sign() >= 0, true)
			before = soak
		}
	}
}

// TestSoaksAddUp: those of two programs, one after the other from the same temperature.
func TestSoaksAddUp(t *testing.T) {
	r := dice()
	for range 2000 {
		p, q := randomProgram(r, 8, 1440, 2000), randomProgram(r, 8, 1440, 2000)
		p.Steps[len(p.Steps)-1].To = shop.Room
		both := program(slices.Concat(p.Steps, q.Steps)...)
		at := r.IntN(2001)
		one, other := fine[api.Rat](t)(shop.Soak(p, at)), fine[api.Rat](t)(shop.Soak(q, at))
		same(t, "Soak of both", fine[api.Rat](t)(shop.Soak(both, at)), text(new(big.Rat).Add(ratio(one), ratio(other))))
		same(t, "Duration of both", fine[int](t)(shop.Duration(both)), minutes(p)+minutes(q))
		minute := big.NewRat(int64(r.IntN(minutes(q)*9+1)), 9)
		later := new(big.Rat).Add(minute, whole(minutes(p)))
		same(t, "Heat of the second one", fine[api.Rat](t)(shop.Heat(both, text(later))), fine[api.Rat](t)(shop.Heat(q, text(minute))))
	}
}

// TestLesserNeeds: a program that fits a need fits a lesser one, and one that breaks it breaks a greater one.
func TestLesserNeeds(t *testing.T) {
	r := dice()
	fits := 0
	for range 5000 {
		p, n := randomProgram(r, 3, 4, 40), randomNeed(r)
		lesser := shop.Need{At: r.IntN(n.At + 1), Minutes: r.IntN(n.Minutes + 1), Most: between(r, n.Most, 50), Rate: between(r, n.Rate, 50)}
		broken := fine[int](t)(shop.Fits(p, n))
		other := fine[int](t)(shop.Fits(p, lesser))
		if broken == 0 {
			same(t, "a lesser need", other, 0)
			fits++
		}
		if other != 0 {
			same(t, "a greater need", broken > 0 && broken <= other, true)
		}
	}
	if fits < 300 {
		t.Errorf("only %d programs that fit", fits)
	}
}

// TestNoFewerLoads: no load list has fewer loads than the best one, or than the lower bound.
func TestNoFewerLoads(t *testing.T) {
	r := dice()
	for range 500 {
		l, capacity := randomItems(r, 0, 8, 3)
		best := fine[[]int](t)(shop.Loads(l, capacity))
		least := fine[int](t)(shop.CheckLoads(l, capacity, best))
		same(t, "fewer than the lower bound", least >= fine[int](t)(shop.Fewest(l, capacity)), true)
		for range 50 {
			var loads []int
			for range l {
				loads = append(loads, r.IntN(count(loads)+1))
			}
			n, e := shop.CheckLoads(l, capacity, loads)
			same(t, "fewer than the best one", e != api.OK || n > least || n == least && slices.Compare(loads, best) >= 0, true)
		}
	}
}

// TestManyItemsInLoads: no load list of up to 64 items has fewer loads than the lower bound.
func TestManyItemsInLoads(t *testing.T) {
	r := dice()
	for range 150 {
		l, capacity := randomItems(r, 9, 64, 3)
		loads := make([]int, len(l))
		for i := range l {
			// Each item goes into the first load that takes it.
			for {
				if _, e := shop.CheckLoads(l[:i+1], capacity, loads[:i+1]); e == api.OK {
					break
				}
				loads[i]++
			}
		}
		n := fine[int](t)(shop.CheckLoads(l, capacity, loads))
		same(t, "fewer than the lower bound", n >= fine[int](t)(shop.Fewest(l, capacity)), true)
	}
}

// TestSchedulesOfOrders: the schedule of an order is one, and ends no earlier than the best one, or than the lower bound.
func TestSchedulesOfOrders(t *testing.T) {
	r := dice()
	for range 500 {
		l := randomJobs(r, between(r, 1, 8), between(r, 1, 8), []int{3, 9, 1440}[r.IntN(3)])
		first := fine[int](t)(shop.CheckStarts(l, fine[[][]int](t)(shop.Starts(l, fine[[]int](t)(shop.Best(l))))))
		bound := fine[int](t)(shop.Bound(l))
		same(t, "the best one before the lower bound", first >= bound, true)
		for range 10 {
			last := fine[int](t)(shop.CheckStarts(l, fine[[][]int](t)(shop.Starts(l, r.Perm(len(l))))))
			same(t, "before the best one", last >= first, true)
		}
	}
	for range 300 {
		l := randomJobs(r, between(r, 9, 32), between(r, 1, 8), 1440)
		last := fine[int](t)(shop.CheckStarts(l, fine[[][]int](t)(shop.Starts(l, r.Perm(len(l))))))
		same(t, "before the lower bound", last >= fine[int](t)(shop.Bound(l)), true)
	}
}

// TestWhatIsTaken: as much as is wanted, of no batch after its day, or more than it has, or twice.
func TestWhatIsTaken(t *testing.T) {
	r := dice()
	found := 0
	for range 3000 {
		l := randomBatches(r, 40)
		grams, day := r.IntN(60), r.IntN(6)
		takes, e := shop.Taken(l, "m", grams, day)
		total, stock := 0, 0
		isTaken := map[int]bool{}
		for _, x := range takes {
			b := l[x.Batch]
			same(t, "a batch that is good", b.Until >= day && b.Kind == "m" && !isTaken[x.Batch], true)
			same(t, "what it has", x.Grams > 0 && x.Grams <= b.Grams, true)
			total, isTaken[x.Batch] = total+x.Grams, true
		}
		for _, b := range l {
			if b.Until >= day && b.Kind == "m" {
				stock += b.Grams
			}
		}
		same(t, "enough", e == api.OK, stock >= grams)
		if e == api.OK {
			same(t, "as much as is wanted", total, grams)
			found++
		}
	}
	if found < 500 || found > 2500 {
		t.Errorf("%d times enough", found)
	}
}

// TestDistances: they are the same both ways, and no tab is nearer than the nearest one.
func TestDistances(t *testing.T) {
	r := dice()
	for range 2000 {
		g := randomGuide(r, 32, 255)
		a, b := randomColour(r, 255), randomColour(r, 255)
		one, back := fine[int](t)(shop.Distance(g, a, b)), fine[int](t)(shop.Distance(g, b, a))
		same(t, "both ways", one, back)
		same(t, "0 only for the same colour", one == 0, a == b)
		nearest := fine[int](t)(shop.Nearest(g, a))
		least := fine[int](t)(shop.Distance(g, a, g.Tabs[nearest].Colour))
		for i, tab := range g.Tabs {
			v := fine[int](t)(shop.Distance(g, a, tab.Colour))
			same(t, "nearer than the nearest one", v > least || v == least && i >= nearest, true)
		}
	}
}
