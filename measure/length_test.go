package measure_test

import (
	"math/big"
	"math/rand/v2"
	"testing"

	"cusp/api"
	"cusp/measure"
)

// stepsOf returns the number of steps between two cells.
func stepsOf(a, b api.Cell) int {
	n := 0
	for _, v := range []int{a.X - b.X, a.Y - b.Y, a.Z - b.Z} {
		if v < 0 {
			v = -v
		}
		n += v
	}
	return n
}

// squareOf returns the square of the distance of two cells.
func squareOf(a, b api.Cell) int {
	x, y, z := a.X-b.X, a.Y-b.Y, a.Z-b.Z
	return x*x + y*y + z*z
}

// sum is a span as two fractions of package big.
type sum struct {
	low  *big.Rat
	high *big.Rat
}

func nothing() sum { return sum{new(big.Rat), new(big.Rat)} }

// add adds the distance of two cells, by the definition of the root.
func (s sum) add(a, b api.Cell) {
	square := int64(squareOf(a, b))
	n := new(big.Int).Sqrt(big.NewInt(square)).Int64()
	if n*n == square {
		s.low.Add(s.low, big.NewRat(n, 1))
		s.high.Add(s.high, big.NewRat(n, 1))
		return
	}
	n = new(big.Int).Sqrt(big.NewInt(square * 1000000)).Int64()
	s.low.Add(s.low, big.NewRat(n, 1000))
	s.high.Add(s.high, big.NewRat(n+1, 1000))
}

func (s sum) span() api.Span { return api.Span{Low: text(s.low), High: text(s.high)} }

// less returns the span of s less another one.
func (s sum) less(other sum) api.Span {
	return sum{new(big.Rat).Sub(s.low, other.high), new(big.Rat).Sub(s.high, other.low)}.span()
}

// needOf, irregularOf and roomOf return the measures by their definitions.
func needOf(a measure.Arch, from, to int) sum {
	s := nothing()
	for i := from; i <= to; i++ {
		s.add(a.Teeth[i].Left, a.Teeth[i].Right)
	}
	return s
}

func irregularOf(a measure.Arch, from, to int) sum {
	s := nothing()
	for i := from + 1; i <= to; i++ {
		s.add(a.Teeth[i-1].Right, a.Teeth[i].Left)
	}
	return s
}

func roomOf(line []api.Cell) sum {
	s := nothing()
	for i := 1; i < len(line); i++ {
		s.add(line[i-1], line[i])
	}
	return s
}

func randomLine(r *rand.Rand, n, size int) []api.Cell {
	l := make([]api.Cell, n)
	for i := range l {
		l[i] = randomCell(r, size)
	}
	return l
}

func TestWidth(t *testing.T) {
	for i, width := range []int{7, 4, 7} {
		same(t, "Width", fine[int](t)(measure.Width(chapter(), i)), width)
	}
	border := arch(tooth("a", at(1000, -1000, 1000), at(-1000, 1000, -1000), at(0, 0, 0)))
	same(t, "the greatest Width", fine[int](t)(measure.Width(border, 0)), 6000)
	same(t, "the least Width", fine[int](t)(measure.Width(manyTeeth(32), 31)), 0)
	r := dice()
	for range 100 {
		a := randomArch(r, 3, 1000)
		for i, tooth := range a.Teeth {
			same(t, "Width", fine[int](t)(measure.Width(a, i)), stepsOf(tooth.Left, tooth.Right))
		}
	}
	for _, i := range []int{-1, 3, 32, least, greatest} {
		got, e := measure.Width(chapter(), i)
		refused(t, "Width of no tooth", got, e, api.ErrUnknown)
	}
	got, e := measure.Width(measure.Arch{}, 0)
	refused(t, "Width of no tooth", got, e, api.ErrUnknown)
}

func TestDistance(t *testing.T) {
	for _, row := range []struct {
		to   api.Cell
		span api.Span
	}{
		{at(0, 0, 0), exact("0")}, {at(3, 4, 0), exact("5")}, {at(0, -3, 4), exact("5")}, {at(2, 3, -6), exact("7")}, {at(-1000, 0, 0), exact("1000")},
		{at(1, 1, 0), api.Span{Low: "707/500", High: "283/200"}}, {at(-1, 1, -1), api.Span{Low: "433/250", High: "1733/1000"}}, {at(0, 2, 1), api.Span{Low: "559/250", High: "2237/1000"}},
	} {
		same(t, "Distance", fine[api.Span](t)(measure.Distance(at(0, 0, 0), row.to)), row.span)
	}
	r := dice()
	for _, size := range []int{1, 3, 30, 1000} {
		for range 100 {
			a, b := randomCell(r, size), randomCell(r, size)
			s := nothing()
			s.add(a, b)
			same(t, "Distance", fine[api.Span](t)(measure.Distance(a, b)), s.span())
		}
	}
	same(t, "the greatest Distance", fine[api.Span](t)(measure.Distance(at(-1000, -1000, -1000), at(1000, 1000, 1000))), api.Span{Low: "3464101/1000", High: "1732051/500"})
	for _, c := range badCells() {
		got, e := measure.Distance(c, at(0, 0, 0))
		refused(t, "Distance from no cell", got, e, api.ErrRange)
		got, e = measure.Distance(at(0, 0, 0), c)
		refused(t, "Distance to no cell", got, e, api.ErrRange)
		got, e = measure.Distance(c, c)
		refused(t, "Distance of no cells", got, e, api.ErrRange)
	}
}

func TestNeedAndIrregular(t *testing.T) {
	a := chapter()
	for _, row := range []struct {
		from, to        int
		need, irregular api.Span
	}{
		{0, 2, exact("14"), api.Span{Low: "1207/500", High: "483/200"}}, {0, 1, exact("9"), exact("1")}, {1, 2, exact("9"), api.Span{Low: "707/500", High: "283/200"}},
		{0, 0, exact("5"), exact("0")}, {1, 1, exact("4"), exact("0")}, {2, 2, exact("5"), exact("0")},
	} {
		same(t, "Need", fine[api.Span](t)(measure.Need(a, row.from, row.to)), row.need)
		same(t, "Irregular", fine[api.Span](t)(measure.Irregular(a, row.from, row.to)), row.irregular)
	}
	r := dice()
	for _, n := range []int{1, 2, 3, 7, 32} {
		for range 40 {
			a := randomArch(r, n, 1+r.IntN(1000))
			from, to := randomRange(r, n)
			same(t, "Need", fine[api.Span](t)(measure.Need(a, from, to)), needOf(a, from, to).span())
			same(t, "Irregular", fine[api.Span](t)(measure.Irregular(a, from, to)), irregularOf(a, from, to).span())
		}
	}
	for _, f := range faultyRanges() {
		need, e := measure.Need(a, f.from, f.to)
		refused(t, "Need of no range", need, e, f.e)
		irregular, e := measure.Irregular(a, f.from, f.to)
		refused(t, "Irregular of no range", irregular, e, f.e)
	}
	need, e := measure.Need(measure.Arch{}, 0, 0)
	refused(t, "Need of no teeth", need, e, api.ErrUnknown)
	irregular, e := measure.Irregular(measure.Arch{}, 0, -1)
	refused(t, "Irregular of no teeth", irregular, e, api.ErrUnknown)
}

// faultyLines returns lists of cells that are no lines, by their errors.
func faultyLines() map[api.Errno][][]api.Cell {
	outside := make([]api.Cell, 256)
	outside[255] = at(0, 0, 1001)
	lines := map[api.Errno][][]api.Cell{
		api.ErrMany:  {make([]api.Cell, 257), make([]api.Cell, 5000), append(outside, at(0, 0, 0))},
		api.ErrRange: {outside},
	}
	for _, c := range badCells() {
		lines[api.ErrRange] = append(lines[api.ErrRange], []api.Cell{c}, []api.Cell{at(0, 0, 0), c, at(0, 0, 0)})
	}
	return lines
}

func TestRoom(t *testing.T) {
	for _, row := range []struct {
		line []api.Cell
		room api.Span
	}{
		{nil, exact("0")}, {[]api.Cell{at(5, 5, 5)}, exact("0")}, {[]api.Cell{at(5, 5, 5), at(5, 5, 5)}, exact("0")},
		{[]api.Cell{at(0, 0, 0), at(6, 8, 0), at(12, 0, 0)}, exact("20")}, {[]api.Cell{at(0, 0, 0), at(6, 8, 0), at(0, 0, 0)}, exact("20")},
		{[]api.Cell{at(0, 0, 0), at(1, 1, 0), at(1, 1, 0), at(2, 2, 0)}, api.Span{Low: "707/250", High: "283/100"}},
	} {
		same(t, "Room", fine[api.Span](t)(measure.Room(row.line)), row.room)
	}
	r := dice()
	for _, n := range []int{2, 3, 20, 256} {
		for range 10 {
			line := randomLine(r, n, 1+r.IntN(1000))
			same(t, "Room", fine[api.Span](t)(measure.Room(line)), roomOf(line).span())
		}
	}
	for e, lines := range faultyLines() {
		for _, line := range lines {
			got, is := measure.Room(line)
			refused(t, "Room of no line", got, is, e)
		}
	}
}

func TestCrowding(t *testing.T) {
	a := chapter()
	line := []api.Cell{at(0, 0, 0), at(6, 8, 0), at(12, 0, 0)}
	same(t, "Crowding", fine[api.Span](t)(measure.Crowding(a, 0, 2, line)), exact("-6"))
	same(t, "Crowding of one tooth", fine[api.Span](t)(measure.Crowding(a, 1, 1, line)), exact("-16"))
	same(t, "Crowding without room", fine[api.Span](t)(measure.Crowding(a, 0, 2, nil)), exact("14"))
	same(t, "Crowding on a slanted line", fine[api.Span](t)(measure.Crowding(a, 1, 1, []api.Cell{at(0, 0, 0), at(1, 1, 0)})), api.Span{Low: "517/200", High: "1293/500"})
	r := dice()
	for range 100 {
		n := 1 + r.IntN(8)
		a, line := randomArch(r, n, 1+r.IntN(100)), randomLine(r, r.IntN(8), 1+r.IntN(100))
		from, to := randomRange(r, n)
		same(t, "Crowding", fine[api.Span](t)(measure.Crowding(a, from, to, line)), needOf(a, from, to).less(roomOf(line)))
	}
	for e, lines := range faultyLines() {
		for _, line := range lines {
			got, is := measure.Crowding(a, 0, 2, line)
			refused(t, "Crowding on no line", got, is, e)
			// The range comes before the line.
			for _, f := range faultyRanges() {
				got, is = measure.Crowding(a, f.from, f.to, line)
				refused(t, "Crowding of no range", got, is, f.e)
			}
		}
	}
}

func TestRatio(t *testing.T) {
	a := chapter()
	b := arch(tooth("x", at(0, 0, 0), at(1, 1, 0), at(0, 0, 0)), tooth("y", at(5, 0, 0), at(5, 0, 0), at(5, 0, 0)))
	for _, row := range []struct {
		a, b     measure.Arch
		from, to int
		ratio    api.Rat
	}{
		{a, a, 0, 2, "1"}, {a, b, 0, 0, "7/2"}, {a, b, 0, 1, "11/2"}, {b, a, 0, 0, "2/7"}, {b, a, 1, 1, "0"}, {b, a, 0, 1, "2/11"},
	} {
		same(t, "Ratio", fine[api.Rat](t)(measure.Ratio(row.a, row.b, row.from, row.to)), row.ratio)
	}
	r := dice()
	for range 100 {
		n, m := 1+r.IntN(5), 1+r.IntN(5)
		a, b := randomArch(r, n, 100), randomArch(r, m, 100)
		from, to := randomRange(r, min(n, m))
		widths := [2]int{}
		for i := from; i <= to; i++ {
			widths[0] += stepsOf(a.Teeth[i].Left, a.Teeth[i].Right)
			widths[1] += stepsOf(b.Teeth[i].Left, b.Teeth[i].Right)
		}
		same(t, "Ratio", fine[api.Rat](t)(measure.Ratio(a, b, from, to)), text(big.NewRat(int64(widths[0]), int64(widths[1]))))
	}
	for _, pair := range [][2]measure.Arch{{a, b}, {a, arch(b.Teeth[1])}, {manyTeeth(3), manyTeeth(2)}} {
		got, e := measure.Ratio(pair[0], pair[1], len(pair[1].Teeth)-1, len(pair[1].Teeth)-1)
		refused(t, "Ratio to nothing", got, e, api.ErrZero)
	}
}

func TestFaultyRatios(t *testing.T) {
	a, two := chapter(), manyTeeth(2)
	for _, f := range faultyRanges() {
		got, e := measure.Ratio(a, a, f.from, f.to)
		refused(t, "Ratio of no range", got, e, f.e)
	}
	for _, row := range []struct {
		a, b     measure.Arch
		from, to int
		e        api.Errno
	}{
		// A range of one arch alone is none.
		{a, two, 0, 2, api.ErrUnknown}, {two, a, 0, 2, api.ErrUnknown}, {a, two, 2, 2, api.ErrUnknown}, {a, measure.Arch{}, 0, 0, api.ErrUnknown}, {measure.Arch{}, a, 0, 0, api.ErrUnknown},
		// That of the first arch comes first.
		{a, two, 2, 1, api.ErrOrder}, {two, a, 2, 1, api.ErrUnknown},
		{two, two, 0, 1, api.ErrZero},
	} {
		got, e := measure.Ratio(row.a, row.b, row.from, row.to)
		refused(t, "Ratio", got, e, row.e)
	}
}
