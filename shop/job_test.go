package shop_test

import (
	"slices"
	"testing"

	"cusp/api"
	"cusp/shop"
)

// P9.3: CheckJobs, Starts, CheckStarts, Best, Bound and Cost.

func TestJobsOfTheExamples(t *testing.T) {
	same(t, "a before b", fine[[][]int](t)(shop.Starts(jobs(), []int{0, 1})), [][]int{{0, 13}, {10, 18}})
	same(t, "b before a", fine[[][]int](t)(shop.Starts(jobs(), []int{1, 0})), [][]int{{4, 17}, {0, 4}})
	same(t, "the end", fine[int](t)(shop.CheckStarts(jobs(), [][]int{{0, 13}, {10, 18}})), 26)
	same(t, "the end", fine[int](t)(shop.CheckStarts(jobs(), [][]int{{4, 17}, {0, 4}})), 22)
	same(t, "Best", fine[[]int](t)(shop.Best(jobs())), []int{1, 0})
	same(t, "Bound", fine[int](t)(shop.Bound(jobs())), 22)
	same(t, "Bound of one job", fine[int](t)(shop.Bound(jobs()[:1])), 18)
	same(t, "Cost", fine[int](t)(shop.Cost(jobs(), []int{2, 3})), 67)
}

// TestJobsWithoutMinutes: they are at a station at no time, but keep their places in the schedule of an order.
func TestJobsWithoutMinutes(t *testing.T) {
	l := []shop.Job{job("a", []int{10, 0}, 0), job("b", []int{0, 5}, 0), job("c", []int{4, 1}, 2)}
	same(t, "behind a", fine[[][]int](t)(shop.Starts(l, []int{0, 1, 2})), [][]int{{0, 10}, {10, 10}, {10, 16}})
	same(t, "before a", fine[[][]int](t)(shop.Starts(l, []int{1, 0, 2})), [][]int{{0, 10}, {0, 0}, {10, 16}})
	same(t, "while a is there", fine[int](t)(shop.CheckStarts(l, [][]int{{0, 10}, {5, 5}, {10, 16}})), 17)
	same(t, "while b is at the other station", fine[int](t)(shop.CheckStarts(l, [][]int{{0, 20}, {0, 18}, {10, 16}})), 23)
	same(t, "a job without minutes ends last", fine[int](t)(shop.CheckStarts(l, [][]int{{0, 50}, {0, 18}, {10, 16}})), 50)
	got, e := shop.CheckStarts(l, [][]int{{0, 10}, {5, 5}, {9, 16}})
	refused(t, "two with minutes", got, e, api.ErrHit)
	none := []shop.Job{job("a", []int{0, 0}, 0), job("b", []int{0, 0}, 0)}
	same(t, "no minutes at all", fine[int](t)(shop.CheckStarts(none, [][]int{{0, 0}, {0, 0}})), 0)
	same(t, "no minutes at all", fine[int](t)(shop.Bound(none)), 0)
	same(t, "no minutes at all", fine[[]int](t)(shop.Best(none)), []int{0, 1})
}

// earliest returns the schedule of an order by the definition: every start is raised until none is too early.
func earliest(l []shop.Job, order []int) [][]int {
	starts := made(l, func(j shop.Job) []int { return make([]int, len(j.Times)) })
	for isEarly := true; isEarly; {
		isEarly = false
		raise := func(i, s, minute int) {
			if starts[i][s] < minute {
				starts[i][s], isEarly = minute, true
			}
		}
		for place, i := range order {
			for s, minutes := range l[i].Times {
				if s+1 < len(l[i].Times) {
					raise(i, s+1, starts[i][s]+minutes+l[i].Dry[s])
				}
				if place+1 < len(order) {
					raise(order[place+1], s, starts[i][s]+minutes)
				}
			}
		}
	}
	return starts
}

func TestStarts(t *testing.T) {
	r := dice()
	for range 1500 {
		l := randomJobs(r, between(r, 1, 9), between(r, 1, 8), 9)
		order := r.Perm(len(l))
		starts := fine[[][]int](t)(shop.Starts(l, order))
		same(t, "Starts", starts, earliest(l, order))
		same(t, "the end of a schedule", fine[int](t)(shop.CheckStarts(l, starts)), end(l, starts))
	}
}

// faultOfStarts returns the error of a schedule by the definition, minute by minute.
func faultOfStarts(l []shop.Job, starts [][]int) api.Errno {
	for i, j := range l {
		for s, dry := range j.Dry {
			if starts[i][s+1] < starts[i][s]+j.Times[s]+dry {
				return api.ErrOrder
			}
		}
	}
	isTaken := map[[2]int]bool{}
	for i, j := range l {
		for s, minutes := range j.Times {
			for minute := range minutes {
				at := [2]int{s, starts[i][s] + minute}
				if isTaken[at] {
					return api.ErrHit
				}
				isTaken[at] = true
			}
		}
	}
	return api.OK
}

func TestCheckStarts(t *testing.T) {
	r := dice()
	seen := map[api.Errno]int{}
	for range 4000 {
		l := randomJobs(r, between(r, 1, 4), between(r, 1, 3), 5)
		starts := earliest(l, r.Perm(len(l)))
		for range r.IntN(4) {
			i, by := r.IntN(len(l)), between(r, -3, 3)
			for s := r.IntN(len(starts[i])); s < len(starts[i]); s++ {
				starts[i][s] = max(0, starts[i][s]+by)
			}
		}
		got, e := shop.CheckStarts(l, starts)
		wanted := faultOfStarts(l, starts)
		seen[e]++
		if wanted != api.OK {
			refused(t, "CheckStarts", got, e, wanted)
			continue
		}
		same(t, "CheckStarts", e, api.OK)
		same(t, "CheckStarts", got, end(l, starts))
	}
	if seen[api.OK] < 500 || seen[api.ErrOrder] < 500 || seen[api.ErrHit] < 500 {
		t.Errorf("errors of schedules: %v", seen)
	}
}

// TestBestByAllOrders: the best order is the first one of all orders that ends first.
func TestBestByAllOrders(t *testing.T) {
	r := dice()
	later, bound := 0, 0
	for i := range 500 {
		n := between(r, 1, 5)
		if i%100 == 0 {
			n = 8
		}
		l := randomJobs(r, n, between(r, 1, 4), 6)
		first, found := -1, []int(nil)
		for _, order := range orders(n) {
			if last := end(l, fine[[][]int](t)(shop.Starts(l, order))); first < 0 || last < first {
				first, found = last, order
			}
		}
		same(t, "Best", fine[[]int](t)(shop.Best(l)), found)
		if !slices.IsSorted(found) {
			later++
		}
		if fine[int](t)(shop.Bound(l)) == first {
			bound++
		}
	}
	if later < 100 || bound < 50 || bound > 450 {
		t.Errorf("%d times not the first order, %d times the lower bound", later, bound)
	}
}

func TestBound(t *testing.T) {
	r := dice()
	byStation, byJob := 0, 0
	for range 2000 {
		l := randomJobs(r, between(r, 1, 32), between(r, 1, 8), 9)
		if r.IntN(2) == 0 {
			l = randomJobs(r, between(r, 1, 3), between(r, 4, 8), 9)
		}
		stations, jobs := 0, 0
		for s := range l[0].Times {
			work, least, rest := 0, greatest, greatest
			for _, j := range l {
				before, after := 0, 0
				for k, minutes := range j.Times {
					if k < s {
						before += minutes + j.Dry[k]
					}
					if k > s {
						after += minutes + j.Dry[k-1]
					}
				}
				work, least, rest = work+j.Times[s], min(least, before), min(rest, after)
				jobs = max(jobs, before+j.Times[s]+after)
			}
			stations = max(stations, least+work+rest)
		}
		same(t, "Bound", fine[int](t)(shop.Bound(l)), max(stations, jobs))
		if stations > jobs {
			byStation++
		}
		if jobs > stations {
			byJob++
		}
	}
	if byStation < 300 || byJob < 300 {
		t.Errorf("%d bounds by a station, %d by a job", byStation, byJob)
	}
}

func TestCost(t *testing.T) {
	r := dice()
	large := 0
	for range 1000 {
		l := randomJobs(r, between(r, 1, 32), between(r, 1, 8), 1440)
		var rates []int
		total := 0
		for s := range l[0].Times {
			rates = append(rates, r.IntN([]int{9, 1000, 100000}[r.IntN(3)]))
			for _, j := range l {
				total += j.Times[s] * rates[s]
			}
		}
		got, e := shop.Cost(l, rates)
		if total > api.MaxNumber {
			refused(t, "Cost", got, e, api.ErrLarge)
			large++
			continue
		}
		same(t, "Cost", e, api.OK)
		same(t, "Cost", got, total)
	}
	if large < 100 || large > 900 {
		t.Errorf("%d of 1000 costs are too large", large)
	}
	one := []shop.Job{job("a", []int{1, 0}, 9)}
	same(t, "the greatest cost", fine[int](t)(shop.Cost(one, []int{api.MaxNumber, api.MaxNumber})), api.MaxNumber)
	one[0].Times[1] = 1
	got, e := shop.Cost(one, []int{api.MaxNumber, 1})
	refused(t, "a penny more", got, e, api.ErrLarge)
	var most []shop.Job
	for i := range 32 {
		most = append(most, job(name(i), many(8, 1440), many(7, 0)...))
	}
	got, e = shop.Cost(most, many(8, api.MaxNumber))
	refused(t, "the greatest rates", got, e, api.ErrLarge)
}

// badJobs are lists of jobs with their errors.
func badJobs() []struct {
	l []shop.Job
	e api.Errno
} {
	type bad = struct {
		l []shop.Job
		e api.Errno
	}
	good := job("a", []int{1, 2}, 3)
	l := []bad{
		{nil, api.ErrEmpty},
		{make([]shop.Job, 33), api.ErrMany},
		{[]shop.Job{good, job("a", nil)}, api.ErrTwice},
		{[]shop.Job{good, job("", nil)}, api.ErrName},
		{[]shop.Job{job("b", nil), job("", nil)}, api.ErrShape},
		{[]shop.Job{job("b", []int{})}, api.ErrShape},
		{[]shop.Job{job("b", []int{}, -1)}, api.ErrShape},
		{[]shop.Job{job("b", []int{-1}, 0)}, api.ErrShape},
		{[]shop.Job{job("b", []int{1, 2})}, api.ErrShape},
		{[]shop.Job{job("b", []int{-1, 2}, 1, 1)}, api.ErrShape},
		{[]shop.Job{good, job("b", []int{1})}, api.ErrShape},
		{[]shop.Job{good, job("b", []int{1, 2, 3}, 0, -1)}, api.ErrShape},
		{[]shop.Job{good, job("b", many(9, 1), many(8, 1)...)}, api.ErrShape},
		{[]shop.Job{job("b", many(9, -1), many(8, 1)...)}, api.ErrMany},
		{[]shop.Job{job("b", many(9, -1), many(9, 1)...)}, api.ErrShape},
	}
	for _, n := range []int{-1, 1441, least, greatest} {
		l = append(l,
			bad{[]shop.Job{good, job("b", []int{n, 1}, 1)}, api.ErrRange},
			bad{[]shop.Job{good, job("b", []int{1, n}, 1)}, api.ErrRange},
			bad{[]shop.Job{good, job("b", []int{1, 1}, n)}, api.ErrRange},
			bad{[]shop.Job{job("b", many(8, 1), append(many(6, 1), n)...)}, api.ErrRange},
		)
	}
	for _, s := range badNames() {
		l = append(l, bad{[]shop.Job{good, job(s, []int{1})}, api.ErrName})
	}
	return l
}

func TestErrorsOfJobs(t *testing.T) {
	for _, x := range badJobs() {
		same(t, "CheckJobs", shop.CheckJobs(x.l), x.e)
		starts, e := shop.Starts(x.l, []int{5, 5})
		refused(t, "Starts", starts, e, x.e)
		n, e := shop.CheckStarts(x.l, [][]int{{-1}})
		refused(t, "CheckStarts", n, e, x.e)
		order, e := shop.Best(x.l)
		refused(t, "Best", order, e, x.e)
		n, e = shop.Bound(x.l)
		refused(t, "Bound", n, e, x.e)
		n, e = shop.Cost(x.l, []int{-1, -1, -1})
		refused(t, "Cost", n, e, x.e)
	}
	single := []shop.Job{job(longName, []int{1440})}
	same(t, "one station", shop.CheckJobs(single), api.OK)
	same(t, "one station", fine[int](t)(shop.Bound(single)), 1440)
	order, e := shop.Best(randomJobs(dice(), 9, 2, 5))
	refused(t, "Best of nine", order, e, api.ErrLimit)
}

// TestJobsAtTheLimits: as many jobs, stations and minutes as there may be.
func TestJobsAtTheLimits(t *testing.T) {
	var l []shop.Job
	var order []int
	for i := range 32 {
		l, order = append(l, job(name(i), many(8, 1440), many(7, 1440)...)), append(order, i)
	}
	same(t, "CheckJobs", shop.CheckJobs(l), api.OK)
	starts := fine[[][]int](t)(shop.Starts(l, order))
	same(t, "the last start", starts[31][7], (31+14)*1440)
	same(t, "the end", fine[int](t)(shop.CheckStarts(l, starts)), (32+14)*1440)
	same(t, "the lower bound", fine[int](t)(shop.Bound(l)), (32+14)*1440)
	late := []shop.Job{job("a", []int{1440})}
	same(t, "the latest start", fine[int](t)(shop.CheckStarts(late, [][]int{{api.MaxNumber}})), api.MaxNumber+1440)
	same(t, "eight jobs", fine[[]int](t)(shop.Best(l[:8])), order[:8])
}

func TestErrorsOfOrders(t *testing.T) {
	for _, x := range []struct {
		order []int
		e     api.Errno
	}{
		{nil, api.ErrShape},
		{[]int{0}, api.ErrShape},
		{[]int{0, 1, 2}, api.ErrShape},
		{[]int{0, 0}, api.ErrOrder},
		{[]int{1, 1}, api.ErrOrder},
		{[]int{1, 2}, api.ErrOrder},
		{[]int{-1, 0}, api.ErrOrder},
		{[]int{0, least}, api.ErrOrder},
		{[]int{greatest, 1}, api.ErrOrder},
	} {
		starts, e := shop.Starts(jobs(), x.order)
		refused(t, "Starts", starts, e, x.e)
	}
}

func TestErrorsOfStarts(t *testing.T) {
	for _, x := range []struct {
		starts [][]int
		e      api.Errno
	}{
		{nil, api.ErrShape},
		{[][]int{{-1, 13}}, api.ErrShape},
		{[][]int{{-1, 13}, {10, 18}, {30, 40}}, api.ErrShape},
		{[][]int{{-1, 13}, {10}}, api.ErrShape},
		{[][]int{{-1, 13}, {10, 18, 30}}, api.ErrShape},
		{[][]int{{0, 12}, {-1, 18}}, api.ErrRange},
		{[][]int{{0, 12}, {10, api.MaxNumber + 1}}, api.ErrRange},
		{[][]int{{0, 12}, {least, greatest}}, api.ErrRange},
		{[][]int{{0, 12}, {9, 18}}, api.ErrOrder},
		{[][]int{{0, 13}, {9, 12}}, api.ErrOrder},
		{[][]int{{0, 13}, {9, 18}}, api.ErrHit},
		{[][]int{{0, 13}, {10, 17}}, api.ErrHit},
		{[][]int{{0, 18}, {10, 14}}, api.ErrHit},
		{[][]int{{0, 13}, {0, 13}}, api.ErrHit},
	} {
		n, e := shop.CheckStarts(jobs(), x.starts)
		refused(t, "CheckStarts", n, e, x.e)
	}
}

func TestErrorsOfRates(t *testing.T) {
	for _, x := range []struct {
		rates []int
		e     api.Errno
	}{
		{nil, api.ErrShape},
		{[]int{-1}, api.ErrShape},
		{[]int{-1, 1, 1}, api.ErrShape},
		{[]int{-1, api.MaxNumber}, api.ErrRange},
		{[]int{api.MaxNumber, -1}, api.ErrRange},
		{[]int{0, api.MaxNumber + 1}, api.ErrRange},
		{[]int{least, greatest}, api.ErrRange},
	} {
		n, e := shop.Cost(jobs(), x.rates)
		refused(t, "Cost", n, e, x.e)
	}
	same(t, "no rates", fine[int](t)(shop.Cost(jobs(), []int{0, 0})), 0)
}

// TestMemoryOfJobs: arguments stay as they are, and results are new.
func TestMemoryOfJobs(t *testing.T) {
	l, order, rates := jobs(), []int{0, 1}, []int{2, 3}
	starts := fine[[][]int](t)(shop.Starts(l, order))
	shop.CheckStarts(l, starts)
	shop.CheckJobs(l)
	shop.Bound(l)
	shop.Cost(l, rates)
	fine[[]int](t)(shop.Best(l))[0] = 7
	same(t, "Best again", fine[[]int](t)(shop.Best(l)), []int{1, 0})
	same(t, "the schedule", starts, [][]int{{0, 13}, {10, 18}})
	starts[0] = append(starts[0][:1], 99, 99, 99)
	same(t, "the other starts", starts[1], []int{10, 18})
	same(t, "the jobs", l, jobs())
	same(t, "the order", order, []int{0, 1})
	same(t, "the rates", rates, []int{2, 3})
}
