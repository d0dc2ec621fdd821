package shop

import (
	"cmp"
	"iter"
	"slices"

	"cusp/api"
	"cusp/exact"
	"cusp/grid"
)

// leg is a step of a program with what was before it: the minute at which it starts, and the temperature from which it goes.
type leg struct {
	start   int
	minutes int
	from    int
	to      int
}

// legs visits the steps of a program.
func (p Program) legs() iter.Seq[leg] {
	return func(yield func(leg) bool) {
		l := leg{to: Room}
		for _, s := range p.Steps {
			l = leg{start: l.end(), minutes: s.Minutes, from: l.to, to: s.To}
			if !yield(l) {
				return
			}
		}
	}
}

// end returns the minute at which a leg ends.
func (l leg) end() int { return l.start + l.minutes }

// rise returns how much hotter it is at the end; it is below 0 if it is colder.
func (l leg) rise() int { return l.to - l.from }

// heat returns the temperature at a minute of a leg, or ErrLarge.
func (l leg) heat(minute api.Rat) (api.Rat, api.Errno) {
	// A product of a long number exceeds the limit of package grid where the temperature does not.
	return exact.Value(
		l.minutes,
		exact.Term{Factor: l.rise(), Number: minute},
		exact.Term{Factor: l.from*l.minutes - l.rise()*l.start, Number: "1"},
	)
}

// soak returns for how many minutes of a leg the furnace has at least a temperature.
func (l leg) soak(at int) api.Rat {
	low, high := min(l.from, l.to), max(l.from, l.to)
	switch {
	case low >= at:
		return quotient(l.minutes, 1)
	case high < at:
		return "0"
	default:
		return quotient(l.minutes*(high-at), high-low)
	}
}

// rate returns how many degrees a minute the temperature of a leg changes.
func (l leg) rate() api.Rat { return quotient(max(l.rise(), -l.rise()), l.minutes) }

// quotient returns the quotient of two integers; the second one is not 0.
func quotient(top, bottom int) api.Rat {
	q, _ := grid.Of(top, bottom)
	return q
}

// compare compares two numbers without errors.
func compare(a, b api.Rat) int {
	order, _ := grid.Order(a, b)
	return order
}

func (s Step) check() api.Errno {
	return first(within(s.Minutes, 1, MaxMinutes), within(s.To, 0, MaxHeat))
}

// CheckProgram returns the first error of a program, or OK.
func CheckProgram(p Program) api.Errno {
	e := first(checkName(p.Name), when(len(p.Steps) == 0, api.ErrEmpty), when(len(p.Steps) > MaxSteps, api.ErrMany))
	if e != api.OK {
		return e
	}
	return first(listOf(p.Steps, Step.check)...)
}

// check returns the error of a need, or OK.
func (n Need) check() api.Errno {
	return first(
		within(n.At, 0, MaxHeat),
		within(n.Most, 0, MaxHeat),
		within(n.Minutes, 0, MaxMinutes),
		within(n.Rate, 0, MaxHeat),
	)
}

// duration returns the minutes of a program.
func (p Program) duration() int {
	end := 0
	for l := range p.legs() {
		end = l.end()
	}
	return end
}

// soak returns for how many minutes of a program without errors the furnace has at least a temperature.
func (p Program) soak(at int) api.Rat {
	total := api.Rat("0")
	for l := range p.legs() {
		total, _ = grid.Add(total, l.soak(at))
	}
	return total
}

// rate returns the greatest change of the temperature in a minute.
func (p Program) rate() api.Rat {
	var rates []api.Rat
	for l := range p.legs() {
		rates = append(rates, l.rate())
	}
	return slices.MaxFunc(rates, compare)
}

// hottest returns the greatest temperature at the end of a step.
func (p Program) hottest() int {
	greatest := 0
	for l := range p.legs() {
		greatest = max(greatest, l.to)
	}
	return greatest
}

// firstBroken returns the number of the first condition that does not hold, from 1 on, or 0. A later one is not asked.
func firstBroken(conditions ...func() bool) int {
	for i, holds := range conditions {
		if !holds() {
			return i + 1
		}
	}
	return 0
}

// broken returns the number of the first condition of a need that a program breaks, or 0.
func (p Program) broken(n Need) int {
	return firstBroken(
		func() bool { return compare(p.soak(n.At), quotient(n.Minutes, 1)) >= 0 },
		func() bool { return p.hottest() <= n.Most },
		func() bool { return compare(p.rate(), quotient(n.Rate, 1)) <= 0 },
	)
}

// Duration returns the minutes of a program.
func Duration(p Program) (int, api.Errno) {
	if e := CheckProgram(p); e != api.OK {
		return 0, e
	}
	return p.duration(), api.OK
}

// Heat returns the temperature at a minute.
func Heat(p Program, minute api.Rat) (api.Rat, api.Errno) {
	if e := first(CheckProgram(p), grid.Check(minute)); e != api.OK {
		return "", e
	}
	if compare(minute, "0") < 0 {
		return "", api.ErrRange
	}
	for l := range p.legs() {
		if compare(minute, quotient(l.end(), 1)) <= 0 {
			return l.heat(minute)
		}
	}
	return "", api.ErrRange
}

// Soak returns for how many minutes the furnace has at least a temperature.
func Soak(p Program, at int) (api.Rat, api.Errno) {
	if e := first(CheckProgram(p), within(at, 0, MaxHeat)); e != api.OK {
		return "", e
	}
	return p.soak(at), api.OK
}

// Rate returns the greatest change of temperature in a minute.
func Rate(p Program) (api.Rat, api.Errno) {
	if e := CheckProgram(p); e != api.OK {
		return "", e
	}
	return p.rate(), api.OK
}

// Fits returns the first condition of a need that a program breaks, or 0.
func Fits(p Program, n Need) (int, api.Errno) {
	if e := first(CheckProgram(p), n.check()); e != api.OK {
		return 0, e
	}
	return p.broken(n), api.OK
}

// checkPrograms returns the first error of a list of programs, or OK.
func checkPrograms(l []Program) api.Errno {
	if len(l) > api.MaxList {
		return api.ErrMany
	}
	return first(listOf(l, CheckProgram)...)
}

// Choose returns the shortest program that fits a need.
func Choose(l []Program, n Need) (int, api.Errno) {
	if e := first(checkPrograms(l), n.check()); e != api.OK {
		return 0, e
	}
	var fitting []int
	for i, p := range l {
		if p.broken(n) == 0 {
			fitting = append(fitting, i)
		}
	}
	if len(fitting) == 0 {
		return 0, api.ErrNone
	}
	byDuration := func(i, k int) int { return cmp.Compare(l[i].duration(), l[k].duration()) }
	return slices.MinFunc(fitting, byDuration), api.OK
}
