package measure_test

import (
	"math/big"
	"testing"

	"cusp/api"
	"cusp/grid"
	"cusp/measure"
)

func TestNeedsOfRanges(t *testing.T) {
	r := dice()
	for range 100 {
		n := 2 + r.IntN(31)
		a := randomArch(r, n, 1+r.IntN(1000))
		from, to := randomRange(r, n-1)
		to++
		middle := from + r.IntN(to-from)
		low := fine[api.Span](t)(measure.Need(a, from, middle))
		high := fine[api.Span](t)(measure.Need(a, middle+1, to))
		same(t, "the needs of two ranges", fine[api.Span](t)(grid.Plus(low, high)), fine[api.Span](t)(measure.Need(a, from, to)))
	}
}

func TestShiftedMeasures(t *testing.T) {
	r := dice()
	for range 100 {
		n := 1 + r.IntN(32)
		a, b, by := randomArch(r, n, 400), randomArch(r, n, 400), randomCell(r, 600)
		there := fine[measure.Arch](t)(measure.Shifted(a, by))
		from, to := randomRange(r, n)
		for i := range n {
			same(t, "a shifted Width", fine[int](t)(measure.Width(there, i)), fine[int](t)(measure.Width(a, i)))
		}
		same(t, "a shifted Need", fine[api.Span](t)(measure.Need(there, from, to)), fine[api.Span](t)(measure.Need(a, from, to)))
		same(t, "a shifted Ratio", fine[api.Rat](t)(measure.Ratio(there, b, from, to)), fine[api.Rat](t)(measure.Ratio(a, b, from, to)))
		same(t, "a Ratio to what is shifted", fine[api.Rat](t)(measure.Ratio(b, there, from, to)), fine[api.Rat](t)(measure.Ratio(b, a, from, to)))
		same(t, "a shifted Depth", fine[api.Rat](t)(measure.Depth(there)), fine[api.Rat](t)(measure.Depth(a)))
		plane := r.IntN(4001) - 2000
		same(t, "a shifted Skew", fine[[]int](t)(measure.Skew(there, plane+2*by.X)), fine[[]int](t)(measure.Skew(a, plane)))
		same(t, "a shifted Plane", fine[int](t)(measure.Plane(there)), fine[int](t)(measure.Plane(a))+2*by.X)
		same(t, "Shifted there and back", fine[measure.Arch](t)(measure.Shifted(there, at(-by.X, -by.Y, -by.Z))), a)
	}
}

// bestSkew returns the sum of the skew at the best plane.
func bestSkew(t *testing.T, a measure.Arch) int {
	t.Helper()
	plane := fine[int](t)(measure.Plane(a))
	return sumOf(fine[[]int](t)(measure.Skew(a, plane)))
}

func TestMirroredMeasures(t *testing.T) {
	r := dice()
	for range 100 {
		a, plane := randomArch(r, 1+r.IntN(32), 400), r.IntN(1001)-500
		mirror := fine[measure.Arch](t)(measure.Mirrored(a, plane))
		same(t, "Mirrored twice", fine[measure.Arch](t)(measure.Mirrored(mirror, plane)), a)
		same(t, "the best skew, mirrored", bestSkew(t, mirror), bestSkew(t, a))
		same(t, "Depth, mirrored", fine[api.Rat](t)(measure.Depth(mirror)), fine[api.Rat](t)(measure.Depth(a)))
	}
}

func TestNoPlaneIsBetter(t *testing.T) {
	r := dice()
	for n := 1; n <= 32; n++ {
		a := randomArch(r, n, 1000)
		best, plane := bestSkew(t, a), fine[int](t)(measure.Plane(a))
		for _, other := range []int{-4000, -2000, plane - 2, plane - 1, plane + 1, plane + 2, 0, 2000, 4000, r.IntN(8001) - 4000} {
			sum := sumOf(fine[[]int](t)(measure.Skew(a, other)))
			if sum < best || sum == best && other < plane {
				t.Errorf("the plane %d has the skew %d, the best plane %d has %d", other, sum, plane, best)
			}
		}
	}
}

func TestDistancesAndSteps(t *testing.T) {
	r := dice()
	for _, size := range []int{1, 2, 5, 1000} {
		for range 100 {
			a := arch(tooth("a", randomCell(r, size), randomCell(r, size), randomCell(r, size)))
			steps := fine[int](t)(measure.Width(a, 0))
			s := fine[api.Span](t)(measure.Distance(a.Teeth[0].Left, a.Teeth[0].Right))
			if number(t, s.High).Cmp(big.NewRat(int64(steps), 1)) > 0 {
				t.Errorf("the distance of %+v is up to %s, with %d steps", a, s.High, steps)
			}
			low := number(t, s.Low)
			if low.Mul(low, low).Cmp(big.NewRat(int64(steps*steps), 1)) > 0 {
				t.Errorf("the square of the distance of %+v is above that of %d steps", a, steps)
			}
			same(t, "the Need of one tooth", fine[api.Span](t)(measure.Need(a, 0, 0)), s)
			same(t, "the Distance back", fine[api.Span](t)(measure.Distance(a.Teeth[0].Right, a.Teeth[0].Left)), s)
		}
	}
}

func TestMovedByChanges(t *testing.T) {
	r := dice()
	for range 200 {
		a, b := randomArch(r, r.IntN(33), 300), randomArch(r, r.IntN(33), 300)
		changes := fine[[]measure.Change](t)(measure.Changes(a, b))
		moved := fine[measure.Arch](t)(measure.Moved(a, changes))
		for i, tooth := range moved.Teeth {
			want := a.Teeth[i].Tip
			for _, other := range b.Teeth {
				if other.Name == tooth.Name {
					want = other.Tip
				}
			}
			same(t, "the Tip of a moved tooth", tooth.Tip, want)
			same(t, "the Width of a moved tooth", stepsOf(tooth.Left, tooth.Right), stepsOf(a.Teeth[i].Left, a.Teeth[i].Right))
		}
		same(t, "Changes after the moves", fine[[]measure.Change](t)(measure.Changes(moved, b)), nil)
	}
}

func TestReadAsPrinted(t *testing.T) {
	r := dice()
	for range 300 {
		a := randomArch(r, r.IntN(33), 1+r.IntN(1000))
		text := fine[string](t)(measure.Print(a))
		same(t, "Parse of what is printed", fine[measure.Arch](t)(parsed(t, text)), a)
		if text == "" {
			continue
		}
		// With a byte changed, a text is that of an arch, or it cannot be read.
		bytes := []byte(text)
		bytes[r.IntN(len(bytes))] = " \n01-9tz"[r.IntN(8)]
		other, line, e := measure.Parse(string(bytes))
		if e != api.OK {
			refused(t, "Parse", other, e, e)
			same(t, "a line beside another error", line > 0, e == api.ErrSyntax)
			continue
		}
		same(t, "Print of what is read", fine[string](t)(measure.Print(other)), string(bytes))
	}
}
