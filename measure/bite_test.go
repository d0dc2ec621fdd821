package measure_test

import (
	"fmt"
	"math/big"
	"slices"
	"strings"
	"testing"

	"cusp/api"
	"cusp/measure"
)

func TestBite(t *testing.T) {
	a := chapter()
	for _, row := range []struct {
		i, k int
		bite [2]int
	}{{0, 1, [2]int{-4, -2}}, {1, 0, [2]int{4, 2}}, {0, 0, [2]int{0, 0}}, {0, 2, [2]int{0, 0}}, {2, 1, [2]int{-4, -2}}} {
		same(t, "Bite", fine[[2]int](t)(measure.Bite(a, a, row.i, row.k)), row.bite)
	}
	border := tips(at(0, 1000, -1000), at(0, -1000, 1000))
	same(t, "the greatest Bite", fine[[2]int](t)(measure.Bite(border, border, 0, 1)), [2]int{2000, 2000})
	r := dice()
	for range 100 {
		upper, lower := randomArch(r, 1+r.IntN(4), 1000), randomArch(r, 1+r.IntN(4), 1000)
		for i, u := range upper.Teeth {
			for k, l := range lower.Teeth {
				same(t, "Bite", fine[[2]int](t)(measure.Bite(upper, lower, i, k)), [2]int{u.Tip.Y - l.Tip.Y, l.Tip.Z - u.Tip.Z})
			}
		}
	}
	for _, row := range []struct {
		upper, lower measure.Arch
		i, k         int
	}{
		{a, a, 3, 0}, {a, a, 0, 3}, {a, a, -1, 0}, {a, a, 0, -1}, {a, a, least, greatest}, {a, a, greatest, least},
		{a, manyTeeth(1), 1, 1}, {manyTeeth(1), a, 1, 1}, {a, measure.Arch{}, 0, 0}, {measure.Arch{}, a, 0, 0},
	} {
		got, e := measure.Bite(row.upper, row.lower, row.i, row.k)
		refused(t, "Bite of no tooth", got, e, api.ErrUnknown)
	}
}

// scale returns the scale of the chapter's examples.
func scale() measure.Scale {
	return measure.Scale{Limits: []api.Rat{"0", "5/2"}, Names: []string{"low", "mid", "high"}}
}

// longScale returns a scale with so many limits, and names for them, all of them the same.
func longScale(n int) measure.Scale {
	s := measure.Scale{Names: slices.Repeat([]string{"c"}, n+1)}
	for i := range n {
		s.Limits = append(s.Limits, text(big.NewRat(int64(i), 3)))
	}
	return s
}

// faultyScale is a scale with an error.
type faultyScale struct {
	what string
	s    measure.Scale
	e    api.Errno
}

func faultyScales() []faultyScale {
	digits := api.Rat(strings.Repeat("9", 601))
	l := []faultyScale{
		{"nothing", measure.Scale{}, api.ErrShape},
		{"257 limits", longScale(257), api.ErrMany},
		{"257 limits that are none", measure.Scale{Limits: make([]api.Rat, 257)}, api.ErrMany},
	}
	add := func(what string, e api.Errno, change func(s *measure.Scale)) {
		s := scale()
		change(&s)
		l = append(l, faultyScale{what, s, e})
	}
	add("a name less", api.ErrShape, func(s *measure.Scale) { s.Names = s.Names[:2] })
	add("a name more", api.ErrShape, func(s *measure.Scale) { s.Names = append(s.Names, "more") })
	add("names alone", api.ErrShape, func(s *measure.Scale) { s.Limits = nil })
	add("no names", api.ErrShape, func(s *measure.Scale) { s.Names = nil })
	add("a limit that is none", api.ErrForm, func(s *measure.Scale) { s.Limits[1] = "" })
	add("a limit that is not in lowest terms", api.ErrForm, func(s *measure.Scale) { s.Limits[0] = "-2/4" })
	add("a limit with too many digits", api.ErrLarge, func(s *measure.Scale) { s.Limits[1] = digits })
	add("equal limits", api.ErrOrder, func(s *measure.Scale) { s.Limits[0] = "5/2" })
	add("descending limits", api.ErrOrder, func(s *measure.Scale) { s.Limits[0] = "3" })
	add("a first name that is none", api.ErrName, func(s *measure.Scale) { s.Names[0] = "" })
	add("a last name that is none", api.ErrName, func(s *measure.Scale) { s.Names[2] = "0" })
	add("a name of 25 bytes", api.ErrName, func(s *measure.Scale) { s.Names[1] = strings.Repeat("c", 25) })
	return l
}

func TestCheckScale(t *testing.T) {
	for _, f := range faultyScales() {
		same(t, f.what, measure.CheckScale(f.s), f.e)
	}
	most := api.Rat(strings.Repeat("9", 600))
	for i, s := range []measure.Scale{
		scale(), longScale(0), longScale(1), longScale(256),
		{Limits: []api.Rat{"-" + most, "-1/2", "-1/" + most, "0", "1/" + most, "1/3", "1/2", most}, Names: slices.Repeat([]string{"c"}, 9)},
	} {
		same(t, fmt.Sprintf("good scale %d", i), measure.CheckScale(s), api.OK)
	}
}

// TestFirstErrorOfScale mends the errors of a scale one by one, in the order in which they are found.
func TestFirstErrorOfScale(t *testing.T) {
	s := measure.Scale{Limits: make([]api.Rat, 257)}
	steps := []struct {
		e    api.Errno
		mend func()
	}{
		{api.ErrMany, func() { s.Limits = []api.Rat{"2", "1/1", "0", "x"} }},
		{api.ErrShape, func() { s.Names = []string{"a", "b", "c", "d", "-"} }},
		{api.ErrForm, func() { s.Limits[1] = api.Rat(strings.Repeat("1", 601)) }},
		{api.ErrLarge, func() { s.Limits[1] = "2" }},
		{api.ErrOrder, func() { s.Limits[1] = "3" }},
		{api.ErrOrder, func() { s.Limits[2] = "4" }},
		{api.ErrForm, func() { s.Limits[3] = "9/2" }},
		{api.ErrName, func() { s.Names[4] = "d" }},
	}
	for i, step := range steps {
		same(t, fmt.Sprintf("step %d", i), measure.CheckScale(s), step.e)
		step.mend()
	}
	same(t, "all mended", measure.CheckScale(s), api.OK)
}

func TestClass(t *testing.T) {
	most := api.Rat(strings.Repeat("9", 600))
	for x, name := range map[api.Rat]string{
		"-4": "low", "-1/1000": "low", "-1/" + most: "low", "-" + most: "low", "0": "mid", "1/" + most: "mid", "2": "mid", "2499/1000": "mid", "5/2": "high", "2501/1000": "high", "100": "high", most: "high",
	} {
		same(t, "Class of "+short(x), fine[string](t)(measure.Class(scale(), x)), name)
	}
	same(t, "Class of the only one", fine[string](t)(measure.Class(longScale(0), "7")), "c")
	long := longScale(256)
	for i := range long.Names {
		long.Names[i] = fmt.Sprintf("c%d", i)
	}
	for i := range 256 {
		same(t, "Class at a limit", fine[string](t)(measure.Class(long, long.Limits[i])), fmt.Sprintf("c%d", i+1))
		same(t, "Class below a limit", fine[string](t)(measure.Class(long, text(big.NewRat(int64(2*i-1), 6)))), fmt.Sprintf("c%d", i))
	}
	twice := scale()
	twice.Names[2] = "low"
	same(t, "Class with a name that two have", fine[string](t)(measure.Class(twice, "9")), "low")
}

func TestFaultyClasses(t *testing.T) {
	for _, f := range faultyScales() {
		for _, x := range []api.Rat{"0", "x"} {
			got, e := measure.Class(f.s, x)
			refused(t, "Class, "+f.what, got, e, f.e)
		}
	}
	for x, wanted := range map[api.Rat]api.Errno{
		"": api.ErrForm, "x": api.ErrForm, "1/1": api.ErrForm, "2/4": api.ErrForm, "-0": api.ErrForm, "+1": api.ErrForm, "1/0": api.ErrForm, "0.5": api.ErrForm,
		api.Rat(strings.Repeat("9", 601)): api.ErrLarge, "1/" + api.Rat(strings.Repeat("9", 601)): api.ErrLarge,
	} {
		got, e := measure.Class(scale(), x)
		refused(t, "Class of "+short(x), got, e, wanted)
	}
}
