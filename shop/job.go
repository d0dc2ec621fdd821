package shop

import (
	"slices"

	"cusp/api"
)

// checkTimes returns the error of the minutes of a job, which goes through so many stations, or OK.
func (j Job) checkTimes(stations int) api.Errno {
	return first(
		when(len(j.Times) != stations || len(j.Dry) != len(j.Times)-1, api.ErrShape),
		when(len(j.Times) > MaxStation, api.ErrMany),
		allWithin(j.Times, 0, MaxMinutes),
		allWithin(j.Dry, 0, MaxMinutes),
	)
}

// CheckJobs returns the first error of jobs, or OK.
func CheckJobs(l []Job) api.Errno {
	if e := first(when(len(l) == 0, api.ErrEmpty), when(len(l) > MaxJobs, api.ErrMany)); e != api.OK {
		return e
	}
	seen := names{}
	for _, j := range l {
		if e := first(checkName(j.Name), seen.add(j.Name), j.checkTimes(stations(l))); e != api.OK {
			return e
		}
	}
	return api.OK
}

// stations returns the number of stations of some jobs.
func stations(l []Job) int { return len(l[0].Times) }

// checkOrder returns the error of an order of n jobs, or OK.
func checkOrder(order []int, n int) api.Errno {
	if len(order) != n {
		return api.ErrShape
	}
	for i := range n {
		if !slices.Contains(order, i) {
			return api.ErrOrder
		}
	}
	return api.OK
}

// ready returns the minute at which a job that starts at a station at a minute may start at the next one.
func (j Job) ready(station, start int) int { return start + j.Times[station] + j.Dry[station] }

// starts returns when a job starts at each station, as early as possible, if they are free from some minutes on.
func (j Job) starts(free []int) []int {
	starts := slices.Clone(free)
	for s := 1; s < len(starts); s++ {
		starts[s] = max(starts[s], j.ready(s-1, starts[s-1]))
	}
	return starts
}

// ends returns when a job that starts at some minutes ends at each station.
func (j Job) ends(starts []int) []int {
	ends := slices.Clone(starts)
	for s, minutes := range j.Times {
		ends[s] += minutes
	}
	return ends
}

// Starts returns the schedule of an order of jobs.
func Starts(l []Job, order []int) ([][]int, api.Errno) {
	if e := CheckJobs(l); e != api.OK {
		return nil, e
	}
	if e := checkOrder(order, len(l)); e != api.OK {
		return nil, e
	}
	starts := make([][]int, len(l))
	free := make([]int, stations(l))
	for _, i := range order {
		starts[i] = l[i].starts(free)
		free = l[i].ends(starts[i])
	}
	return starts, api.OK
}

// checkNumbers returns the error of the numbers of a schedule of some jobs without errors, or OK.
func checkNumbers(l []Job, starts [][]int) api.Errno {
	if len(starts) != len(l) {
		return api.ErrShape
	}
	for _, times := range starts {
		if len(times) != stations(l) {
			return api.ErrShape
		}
	}
	return first(listOf(starts, func(times []int) api.Errno { return allWithin(times, 0, api.MaxNumber) })...)
}

// isEarly reports whether a job with some starts starts too early at a station.
func (j Job) isEarly(starts []int) bool {
	for s := range len(starts) - 1 {
		if starts[s+1] < j.ready(s, starts[s]) {
			return true
		}
	}
	return false
}

// use is when a job is at a station.
type use struct {
	start int
	end   int
}

// isHit reports whether two jobs are at the same place at the same time. One without minutes is there at no time.
func (u use) isHit(v use) bool { return max(u.start, v.start) < min(u.end, v.end) }

// uses returns when the jobs of a schedule are at a station.
func uses(l []Job, starts [][]int, station int) []use {
	out := make([]use, len(l))
	for i, j := range l {
		start := starts[i][station]
		out[i] = use{start, start + j.Times[station]}
	}
	return out
}

// hasHit reports whether two of some uses of a station hit each other.
func hasHit(l []use) bool {
	for i, u := range l {
		if slices.ContainsFunc(l[:i], u.isHit) {
			return true
		}
	}
	return false
}

// CheckStarts returns the end of a schedule, or its error.
func CheckStarts(l []Job, starts [][]int) (int, api.Errno) {
	if e := CheckJobs(l); e != api.OK {
		return 0, e
	}
	if e := checkNumbers(l, starts); e != api.OK {
		return 0, e
	}
	for i, j := range l {
		if j.isEarly(starts[i]) {
			return 0, api.ErrOrder
		}
	}
	for s := range stations(l) {
		if hasHit(uses(l, starts, s)) {
			return 0, api.ErrHit
		}
	}
	end := 0
	for _, u := range uses(l, starts, stations(l)-1) {
		end = max(end, u.end)
	}
	return end, api.OK
}

// Best returns the order that ends first.
func Best(l []Job) ([]int, api.Errno) {
	if e := first(CheckJobs(l), when(len(l) > api.MaxExact, api.ErrLimit)); e != api.OK {
		return nil, e
	}
	var best []int
	least := 0
	var extend func(order, free []int)
	extend = func(order, free []int) {
		// No further job ends earlier, and an order that is found later has to end before those that are known.
		end := free[len(free)-1]
		if best != nil && end >= least {
			return
		}
		if len(order) == len(l) {
			best, least = slices.Clone(order), end
			return
		}
		for i, j := range l {
			if !slices.Contains(order, i) {
				extend(append(order, i), j.ends(j.starts(free)))
			}
		}
	}
	extend(nil, make([]int, stations(l)))
	return best, api.OK
}

// before returns what a job needs before a station.
func (j Job) before(station int) int { return sum(j.Times[:station]...) + sum(j.Dry[:station]...) }

// after returns what a job needs after a station.
func (j Job) after(station int) int { return sum(j.Times[station+1:]...) + sum(j.Dry[station:]...) }

// all returns what a job needs altogether.
func (j Job) all() int { return sum(j.Times...) + sum(j.Dry...) }

// Bound returns the lower bound of the end.
func Bound(l []Job) (int, api.Errno) {
	if e := CheckJobs(l); e != api.OK {
		return 0, e
	}
	bound := slices.Max(listOf(l, Job.all))
	for s := range stations(l) {
		minutes := sum(listOf(l, func(j Job) int { return j.Times[s] })...)
		before := slices.Min(listOf(l, func(j Job) int { return j.before(s) }))
		after := slices.Min(listOf(l, func(j Job) int { return j.after(s) }))
		bound = max(bound, before+minutes+after)
	}
	return bound, api.OK
}

// checkRates returns the error of the rates of so many stations, or OK.
func checkRates(rates []int, stations int) api.Errno {
	return first(when(len(rates) != stations, api.ErrShape), allWithin(rates, 0, api.MaxNumber))
}

// Cost returns the cost of jobs.
func Cost(l []Job, rates []int) (int, api.Errno) {
	if e := CheckJobs(l); e != api.OK {
		return 0, e
	}
	if e := checkRates(rates, stations(l)); e != api.OK {
		return 0, e
	}
	cost := 0
	for _, j := range l {
		for s, minutes := range j.Times {
			cost += minutes * rates[s]
		}
	}
	if cost > api.MaxNumber {
		return 0, api.ErrLarge
	}
	return cost, api.OK
}
