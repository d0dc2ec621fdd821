package shop_test

import (
	"fmt"
	"math/big"
	"math/rand/v2"
	"reflect"
	"slices"
	"strings"
	"testing"

	"cusp/api"
	"cusp/shop"
)

const (
	least    = -1 << 63
	greatest = 1<<63 - 1
)

// plain returns a value with nil for an empty list: both are the same.
func plain(v any) any {
	if x := reflect.ValueOf(v); x.Kind() == reflect.Slice && x.Len() == 0 {
		return nil
	}
	return v
}

// same reports a result that is not the wanted one; nil and empty lists are equal.
func same[T any](t *testing.T, what string, got, wanted T) {
	t.Helper()
	if !reflect.DeepEqual(plain(got), plain(wanted)) {
		t.Errorf("%s: got %s, want %s", what, short(got), short(wanted))
	}
}

// short returns the beginning of a text for a value: some texts have thousands of bytes.
func short(v any) string {
	s := fmt.Sprintf("%+v", v)
	return s[:min(len(s), 400)]
}

// refused reports another error than the wanted one, and a result beside it.
func refused[T any](t *testing.T, what string, got T, e, wanted api.Errno) {
	t.Helper()
	same(t, what, e, wanted)
	if v := plain(got); v != nil && !reflect.ValueOf(v).IsZero() {
		t.Errorf("%s: got %s beside an error", what, short(got))
	}
}

// fine returns a result, and reports its error.
func fine[T any](t *testing.T) func(T, api.Errno) T {
	return func(got T, e api.Errno) T {
		t.Helper()
		if e != api.OK {
			t.Errorf("error %d of what is right", e)
		}
		return got
	}
}

// made returns the list of what is made from the elements of a list.
func made[T, U any](l []T, from func(T) U) []U {
	var out []U
	for _, x := range l {
		out = append(out, from(x))
	}
	return out
}

// many returns a list of n same elements.
func many[T any](n int, x T) []T { return slices.Repeat([]T{x}, n) }

func dice() *rand.Rand { return rand.New(rand.NewPCG(91, 97)) }

// between returns a number from low to high.
func between(r *rand.Rand, low, high int) int { return low + r.IntN(high-low+1) }

// name returns a name of the greatest length, or a shorter one, with a number in it.
func name(i int) string { return fmt.Sprintf("n%d", i) }

// longName has as many bytes as a name may have.
const longName = "abcdefghijklmnopqrstuvw_"

// badNames are texts that are no names.
func badNames() []string {
	return []string{"", "1a", "_a", "a b", "a-b", "ä", "aé", "a\n", longName + "x"}
}

// ratio returns the value of a number.
func ratio(a api.Rat) *big.Rat {
	v, _ := new(big.Rat).SetString(string(a))
	return v
}

// text returns a value as a number.
func text(v *big.Rat) api.Rat { return api.Rat(v.RatString()) }

func whole(n int) *big.Rat { return big.NewRat(int64(n), 1) }

// isLarge reports whether a value has too many digits.
func isLarge(v *big.Rat) bool {
	return len(strings.TrimPrefix(v.Num().String(), "-")) > 600 || len(v.Denom().String()) > 600
}

// step returns a step.
func step(minutes, to int) shop.Step { return shop.Step{Minutes: minutes, To: to} }

// program returns a program.
func program(steps ...shop.Step) shop.Program { return shop.Program{Name: "P", Steps: steps} }

// firing returns the program P of the chapter.
func firing() shop.Program { return program(step(40, 820), step(10, 820), step(80, 20)) }

// randomProgram returns a program of up to n steps of up to some minutes and degrees.
func randomProgram(r *rand.Rand, n, minutes, heat int) shop.Program {
	p := shop.Program{Name: name(r.IntN(9))}
	for range between(r, 1, n) {
		s := step(between(r, 1, minutes), between(r, 0, heat))
		if r.IntN(5) == 0 && len(p.Steps) > 0 {
			s.To = p.Steps[len(p.Steps)-1].To
		}
		p.Steps = append(p.Steps, s)
	}
	return p
}

// minutes returns the minutes of a program.
func minutes(p shop.Program) int {
	total := 0
	for _, s := range p.Steps {
		total += s.Minutes
	}
	return total
}

// heatAt returns the temperature at a minute of a program by the definition.
func heatAt(p shop.Program, minute *big.Rat) *big.Rat {
	start, before := 0, 20
	for _, s := range p.Steps {
		if minute.Cmp(whole(start+s.Minutes)) <= 0 {
			part := new(big.Rat).Quo(new(big.Rat).Sub(minute, whole(start)), whole(s.Minutes))
			return part.Add(part.Mul(part, whole(s.To-before)), whole(before))
		}
		start, before = start+s.Minutes, s.To
	}
	panic("a minute behind the end")
}

// items returns items with names by their numbers; each one is its program and its size.
func items(l ...shop.Item) []shop.Item {
	for i := range l {
		l[i].Name = name(i)
	}
	return l
}

func item(program string, size int) shop.Item { return shop.Item{Program: program, Size: size} }

// randomItems returns from low to high items of up to some programs, and a capacity.
func randomItems(r *rand.Rand, low, high, programs int) ([]shop.Item, int) {
	capacity := between(r, 1, 12)
	var l []shop.Item
	for range between(r, low, high) {
		l = append(l, item(name(r.IntN(programs)), between(r, 1, capacity)))
	}
	return items(l...), capacity
}

// lists returns all lists of n numbers of loads, in lexicographic order, in which loads are numbered as they occur.
func lists(n int) [][]int {
	if n == 0 {
		return [][]int{nil}
	}
	var out [][]int
	for _, l := range lists(n - 1) {
		for next := range count(l) + 1 {
			out = append(out, append(slices.Clone(l), next))
		}
	}
	return out
}

// count returns how many loads a load list has.
func count(l []int) int {
	if len(l) == 0 {
		return 0
	}
	return slices.Max(l) + 1
}

// job returns a job; first its times, then its drying.
func job(name string, times []int, dry ...int) shop.Job {
	return shop.Job{Name: name, Times: times, Dry: dry}
}

// jobs returns the jobs of the chapter.
func jobs() []shop.Job { return []shop.Job{job("a", []int{10, 5}, 3), job("b", []int{4, 8}, 0)} }

// randomJobs returns n jobs for some stations with up to some minutes; often they have none.
func randomJobs(r *rand.Rand, n, stations, minutes int) []shop.Job {
	some := func() int { return max(0, between(r, -minutes/3, minutes)) }
	var l []shop.Job
	for i := range n {
		j := job(name(i), nil)
		for s := range stations {
			j.Times = append(j.Times, some())
			if s > 0 {
				j.Dry = append(j.Dry, some())
			}
		}
		l = append(l, j)
	}
	return l
}

// orders returns all orders of n jobs, in lexicographic order.
func orders(n int) [][]int {
	lists := [][]int{nil}
	for range n {
		var longer [][]int
		for _, l := range lists {
			for i := range n {
				if !slices.Contains(l, i) {
					longer = append(longer, append(slices.Clone(l), i))
				}
			}
		}
		lists = longer
	}
	return lists
}

// end returns the last minute at which a job of a schedule ends at the last station.
func end(l []shop.Job, starts [][]int) int {
	last := 0
	for i, j := range l {
		s := len(j.Times) - 1
		last = max(last, starts[i][s]+j.Times[s])
	}
	return last
}

// batch returns a batch of the kind k.
func batch(name string, grams, until int) shop.Batch {
	return shop.Batch{Name: name, Kind: "k", Grams: grams, Until: until}
}

// guide returns a guide with tabs of some colours.
func guide(weights [3]int, colours ...[3]int) shop.Guide {
	g := shop.Guide{Weights: weights}
	for i, c := range colours {
		g.Tabs = append(g.Tabs, shop.Tab{Name: name(i), Colour: c})
	}
	return g
}

func randomColour(r *rand.Rand, high int) [3]int {
	return [3]int{between(r, 0, high), between(r, 0, high), between(r, 0, high)}
}

// randomGuide returns a guide of up to n tabs, whose numbers are at most high.
func randomGuide(r *rand.Rand, n, high int) shop.Guide {
	var colours [][3]int
	for range between(r, 1, n) {
		colours = append(colours, randomColour(r, high))
	}
	heavy := []int{3, 100}[r.IntN(2)]
	return guide([3]int{between(r, 1, heavy), between(r, 1, heavy), between(r, 1, heavy)}, colours...)
}
