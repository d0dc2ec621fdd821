package grid_test

import (
	"fmt"
	"math/big"
	"math/rand/v2"
	"reflect"
	"slices"
	"strings"
	"testing"

	"cusp/api"
	"cusp/grid"
)

const (
	least    = -1 << 63
	greatest = 1<<63 - 1
)

// same reports a result that is not the wanted one.
func same[T comparable](t *testing.T, what string, got, wanted T) {
	t.Helper()
	if got != wanted {
		t.Errorf("%s: got %s, want %s", what, short(got), short(wanted))
	}
}

// short returns the beginning of a text for a value: some have thousands of cells.
func short(v any) string {
	s := fmt.Sprint(v)
	return s[:min(len(s), 200)]
}

// sameList reports a list that is not the wanted one; nil and empty lists are equal.
func sameList[T any](t *testing.T, what string, got, wanted []T) {
	t.Helper()
	if len(got)+len(wanted) > 0 && !reflect.DeepEqual(got, wanted) {
		t.Errorf("%s: got %s, want %s", what, short(got), short(wanted))
	}
}

// refused reports another error than the wanted one, and a result beside it.
func refused[T any](t *testing.T, what string, got T, e, wanted api.Errno) {
	t.Helper()
	same(t, what, e, wanted)
	if v := reflect.ValueOf(got); v.Kind() == reflect.Slice && v.Len() > 0 || v.Kind() != reflect.Slice && !v.IsZero() {
		t.Errorf("%s: got %s beside an error", what, short(got))
	}
}

// fine returns a result, and reports its error.
func fine[T any](t *testing.T) func(T, api.Errno) T {
	return func(got T, e api.Errno) T {
		t.Helper()
		if e != api.OK {
			t.Errorf("error %d of what is right", e)
		}
		return got
	}
}

func digits(n int) string { return strings.Repeat("9", n) }

// power returns 10 to the power n.
func power(n int) api.Rat { return api.Rat("1" + strings.Repeat("0", n)) }

func span(low, high api.Rat) api.Span { return api.Span{Low: low, High: high} }

func at(x, y, z int) api.Cell { return api.Cell{X: x, Y: y, Z: z} }

// corner returns the set A of the chapter's examples.
func corner() []api.Cell { return []api.Cell{at(0, 0, 0), at(1, 0, 0), at(1, 1, 0)} }

func origin() []api.Cell { return []api.Cell{at(0, 0, 0)} }

// block returns the cells of a box.
func block(t *testing.T, low, high api.Cell) []api.Cell {
	t.Helper()
	return fine[[]api.Cell](t)(grid.Block(grid.Box{Low: low, High: high}))
}

// without returns a set without some cells.
func without(l []api.Cell, cells ...api.Cell) []api.Cell {
	return slices.DeleteFunc(slices.Clone(l), func(c api.Cell) bool { return slices.Contains(cells, c) })
}

// ordered sorts cells without package grid.
func ordered(l []api.Cell) []api.Cell {
	out := slices.Clone(l)
	slices.SortFunc(out, func(a, b api.Cell) int {
		return slices.Compare([]int{a.X, a.Y, a.Z}, []int{b.X, b.Y, b.Z})
	})
	return slices.Compact(out)
}

func dice() *rand.Rand { return rand.New(rand.NewPCG(7, 11)) }

// scattered returns a set of cells with coordinates from -size to size; of these one of so many is taken.
func scattered(r *rand.Rand, size, of int) []api.Cell {
	var l []api.Cell
	for x := -size; x <= size; x++ {
		for y := -size; y <= size; y++ {
			for z := -size; z <= size; z++ {
				if r.IntN(of) == 0 {
					l = append(l, at(x, y, z))
				}
			}
		}
	}
	return l
}

// badSets returns lists of cells with errors, and these.
func badSets() map[api.Errno][]api.Cell {
	return map[api.Errno][]api.Cell{
		api.ErrMany:  make([]api.Cell, api.MaxCells+1),
		api.ErrRange: {at(0, 0, 0), at(0, 0, api.MaxSize+1)},
		api.ErrOrder: {at(0, 0, 1), at(0, 0, 0)},
	}
}

func absolute(n int) int { return max(n, -n) }

func distance(a, b api.Cell) int {
	return absolute(a.X-b.X) + absolute(a.Y-b.Y) + absolute(a.Z-b.Z)
}

// randomInteger returns an integer with up to so many digits.
func randomInteger(r *rand.Rand, most int) *big.Int {
	n := new(big.Int)
	for range 1 + r.IntN(most) {
		n.Mul(n, big.NewInt(10))
		// Many digits 0 and 9 lead to rare carries.
		n.Add(n, big.NewInt([]int64{0, 9, 0, 9, r.Int64N(10)}[r.IntN(5)]))
	}
	if r.IntN(2) == 0 {
		n.Neg(n)
	}
	return n
}

// randomNumber returns a fraction whose numbers have up to so many digits.
func randomNumber(r *rand.Rand, most int) *big.Rat {
	for {
		if bottom := randomInteger(r, most); bottom.Sign() != 0 {
			return new(big.Rat).SetFrac(randomInteger(r, most), bottom)
		}
	}
}

func ratOf(x *big.Rat) api.Rat { return api.Rat(x.RatString()) }

// limited returns the text of a result, or ErrLarge.
func limited(x *big.Rat) (api.Rat, api.Errno) {
	top := strings.TrimPrefix(x.Num().String(), "-")
	if len(top) > api.MaxDigits || len(x.Denom().String()) > api.MaxDigits {
		return "", api.ErrLarge
	}
	return ratOf(x), api.OK
}
