package measure_test

import (
	"math/big"
	"testing"

	"cusp/api"
	"cusp/measure"
)

// skewOf returns the skew by its definition.
func skewOf(a measure.Arch, plane int) []int {
	var skew []int
	n := len(a.Teeth)
	for i := range n {
		other := a.Teeth[n-1-i].Tip
		other.X = plane - other.X
		skew = append(skew, stepsOf(other, a.Teeth[i].Tip))
	}
	return skew
}

func sumOf(l []int) int {
	sum := 0
	for _, n := range l {
		sum += n
	}
	return sum
}

// bestPlane tries all planes.
func bestPlane(a measure.Arch) int {
	best := -measure.MaxPlane
	for plane := -measure.MaxPlane; plane <= measure.MaxPlane; plane++ {
		if sumOf(skewOf(a, plane)) < sumOf(skewOf(a, best)) {
			best = plane
		}
	}
	return best
}

func TestMidline(t *testing.T) {
	ends := func(x ...int) measure.Arch {
		a := manyTeeth(len(x) / 2)
		for i := range a.Teeth {
			a.Teeth[i].Left, a.Teeth[i].Right = at(x[2*i], 9, -9), at(x[2*i+1], 8, -8)
		}
		return a
	}
	for _, row := range []struct {
		a       measure.Arch
		midline api.Rat
	}{
		{chapter(), "6"}, {arch(chapter().Teeth[:2]...), "7/2"}, {ends(1, 2), "3/2"}, {ends(-3, -2), "-5/2"}, {ends(-1, 1), "0"}, {ends(-1000, -1000), "-1000"}, {ends(1000, 999), "1999/2"},
		{ends(100, 1, 2, 200), "3/2"}, {ends(100, 200, 7, 9, 300, 400), "8"}, {ends(100, 200, 300, -4, -7, 400, 500, 600), "-11/2"}, {ends(10, 20, 30, 40, 5, 6, 70, 80, 90, 99), "11/2"},
	} {
		same(t, "Midline", fine[api.Rat](t)(measure.Midline(row.a)), row.midline)
	}
	r := dice()
	for n := 1; n <= 32; n++ {
		a := randomArch(r, n, 1000)
		h := n / 2
		x := a.Teeth[h].Left.X
		if n%2 == 1 {
			x += a.Teeth[h].Right.X
		} else {
			x += a.Teeth[h-1].Right.X
		}
		same(t, "Midline", fine[api.Rat](t)(measure.Midline(a)), text(big.NewRat(int64(x), 2)))
	}
	got, e := measure.Midline(measure.Arch{})
	refused(t, "Midline of nothing", got, e, api.ErrNone)
}

func TestSkew(t *testing.T) {
	for plane, skew := range map[int][]int{12: {0, 0, 0}, 10: {2, 2, 2}, 15: {3, 3, 3}, 4000: {3988, 3988, 3988}, -4000: {4012, 4012, 4012}} {
		same(t, "Skew", fine[[]int](t)(measure.Skew(chapter(), plane)), skew)
	}
	same(t, "Skew of nothing", fine[[]int](t)(measure.Skew(measure.Arch{}, 7)), nil)
	uneven := tips(at(0, 0, 0), at(3, 1, 1), at(5, 8, -2), at(11, 0, 4))
	same(t, "Skew", fine[[]int](t)(measure.Skew(uneven, 10)), []int{5, 12, 12, 5})
	same(t, "Skew of one", fine[[]int](t)(measure.Skew(tips(at(4, 5, 6)), 11)), []int{3})
	far := tips(at(-1000, -1000, -1000), at(-1000, 1000, 1000))
	same(t, "the greatest Skew", fine[[]int](t)(measure.Skew(far, 4000)), []int{10000, 10000})
	r := dice()
	for n := range 33 {
		a, plane := randomArch(r, n, 1000), r.IntN(8001)-4000
		same(t, "Skew", fine[[]int](t)(measure.Skew(a, plane)), skewOf(a, plane))
	}
	for _, plane := range []int{4001, -4001, least, greatest} {
		for _, a := range []measure.Arch{chapter(), {}} {
			got, e := measure.Skew(a, plane)
			refused(t, "Skew at no plane", got, e, api.ErrRange)
		}
	}
}

func TestPlane(t *testing.T) {
	for _, row := range []struct {
		what  string
		a     measure.Arch
		plane int
	}{
		{"A", chapter(), 12}, {"two teeth", arch(chapter().Teeth[:2]...), 7}, {"one tooth", tips(at(-7, 1, 1)), -14}, {"one tooth at 0", tips(at(0, 1, 1)), 0},
		{"the border", tips(at(1000, 0, 0)), 2000}, {"the other border", tips(at(-1000, 0, 0), at(-1000, 3, 3)), -2000},
		// Of two pairs, all planes between both are as good; of three, the middle one is best.
		{"four teeth", tips(at(0, 0, 0), at(1, 0, 0), at(2, 0, 0), at(10, 0, 0)), 3}, {"four teeth in another order", tips(at(1, 0, 0), at(0, 0, 0), at(10, 0, 0), at(2, 0, 0)), 3},
		{"six teeth", tips(at(0, 0, 0), at(1, 0, 0), at(2, 0, 0), at(3, 0, 0), at(7, 0, 0), at(4, 0, 0)), 5},
		// The tooth in the middle counts once, a pair twice.
		{"three teeth", tips(at(0, 0, 0), at(50, 0, 0), at(10, 0, 0)), 10},
		{"heights", tips(at(0, 9, 9), at(1, 0, 0), at(2, -9, 0), at(10, 0, -9)), 3},
	} {
		same(t, "Plane of "+row.what, fine[int](t)(measure.Plane(row.a)), row.plane)
	}
	r := dice()
	for n := 1; n <= 32; n++ {
		for _, size := range []int{2, 10, 1000} {
			a := randomArch(r, n, size)
			same(t, "Plane", fine[int](t)(measure.Plane(a)), bestPlane(a))
		}
	}
	got, e := measure.Plane(measure.Arch{})
	refused(t, "Plane of nothing", got, e, api.ErrNone)
}

func TestDepth(t *testing.T) {
	heights := func(z ...int) measure.Arch {
		a := manyTeeth(len(z))
		for i := range a.Teeth {
			a.Teeth[i].Tip = at(7*i, -i, z[i])
		}
		return a
	}
	for _, row := range []struct {
		a     measure.Arch
		depth api.Rat
	}{
		{chapter(), "2"}, {heights(5), "0"}, {heights(-5), "0"}, {heights(5, -5), "0"}, {heights(4, 4, 5, 6), "2/3"}, {heights(6, 5, 4, 4), "2/3"},
		{heights(0, 1, 0), "0"}, {heights(0, 0, 1), "1/2"}, {heights(3, 1, 2, 3), "2"}, {heights(3, 2, 1, 3), "2"}, {heights(0, 100, -100, 0), "100"}, {heights(-10, -7, -10), "0"},
		{heights(1000, -1000, 1000), "2000"}, {heights(0, 1, 2, 3, 4), "0"}, {heights(4, 0, 2, 0, 0), "3"}, {heights(0, 0, 0, 0, 0, 0, 0, 5), "30/7"},
	} {
		same(t, "Depth", fine[api.Rat](t)(measure.Depth(row.a)), row.depth)
	}
	r := dice()
	for n := 2; n <= 32; n++ {
		a := randomArch(r, n, 1000)
		depth := new(big.Rat)
		z := func(i int) *big.Rat { return big.NewRat(int64(a.Teeth[i].Tip.Z), 1) }
		for i := range n {
			line := new(big.Rat).Sub(z(n-1), z(0))
			line.Mul(line, big.NewRat(int64(i), int64(n-1)))
			line.Add(line, z(0))
			if below := line.Sub(line, z(i)); below.Cmp(depth) > 0 {
				depth = below
			}
		}
		same(t, "Depth", fine[api.Rat](t)(measure.Depth(a)), text(depth))
	}
	got, e := measure.Depth(measure.Arch{})
	refused(t, "Depth of nothing", got, e, api.ErrNone)
}
