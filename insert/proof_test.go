package insert_test

import (
	"math/big"
	"slices"
	"strings"
	"testing"

	"cusp/api"
	"cusp/insert"
)

// proof returns a proof from pairs of a wall and a weight.
func proof(walls []int, weights ...string) insert.Proof {
	p := insert.Proof{Walls: walls}
	for _, w := range weights {
		p.Weights = append(p.Weights, api.Rat(w))
	}
	return p
}

// isProof reports whether a proof proves what it has to, by the definition.
func isProof(walls []api.Cell, steep int, p insert.Proof) bool {
	if len(p.Walls) < 1 || len(p.Walls) > 3 || len(p.Weights) != len(p.Walls) {
		return false
	}
	all := limited(walls, steep)
	x, y, z := new(big.Rat), new(big.Rat), new(big.Rat)
	for i, n := range p.Walls {
		weight := value(p.Weights[i])
		if n < 0 || n >= len(all) || i > 0 && n <= p.Walls[i-1] || weight.Sign() <= 0 {
			return false
		}
		x.Add(x, new(big.Rat).Mul(weight, ratio(all[n].X, 1)))
		y.Add(y, new(big.Rat).Mul(weight, ratio(all[n].Y, 1)))
		z.Add(z, new(big.Rat).Mul(weight, ratio(all[n].Z, 1)))
	}
	return x.Sign() == 0 && y.Sign() == 0 && z.Sign() < 0
}

func TestErrorsOfProofs(t *testing.T) {
	w := chapter(at(1, 0, -2))
	for _, c := range []struct {
		what string
		p    insert.Proof
		e    api.Errno
	}{
		{"the proof of the chapter", proof([]int{1, 4}, "1", "1"), api.OK},
		{"its half", proof([]int{1, 4}, "1/2", "1/2"), api.OK},
		{"no weight", proof([]int{1, 4}, "1"), api.ErrShape},
		{"no wall", proof([]int{1}, "1", "1"), api.ErrShape},
		{"only weights", proof(nil, "x"), api.ErrShape},
		{"four walls, three weights", proof([]int{9, 9, 9, 9}, "x", "x", "x"), api.ErrShape},
		{"nothing", insert.Proof{}, api.ErrEmpty},
		{"four walls", proof([]int{9, 9, 9, 9}, "x", "x", "x", "x"), api.ErrMany},
		{"the first wall behind the limit", proof([]int{1, 9}, "1", "x"), api.ErrUnknown},
		{"a wall before the first one", proof([]int{-1, 9}, "x", "x"), api.ErrUnknown},
		{"the least wall", proof([]int{least}, "x"), api.ErrUnknown},
		{"the greatest wall", proof([]int{1, greatest}, "1", "x"), api.ErrUnknown},
		{"a wall twice", proof([]int{1, 1}, "1", "x"), api.ErrOrder},
		{"a wall below the one before", proof([]int{4, 1}, "1", "0"), api.ErrOrder},
		{"a wall twice behind a weight that is none", proof([]int{1, 1}, "x", "1"), api.ErrForm},
		{"a weight that is none", proof([]int{1, 4}, "1", "x"), api.ErrForm},
		{"a weight that is none before a wall that is none", proof([]int{1, 9}, "2/2", "1"), api.ErrForm},
		{"a weight of 601 digits", proof([]int{1, 4}, nines(601), "-1"), api.ErrLarge},
		{"a weight of 0", proof([]int{1, 4}, "0", "x"), api.ErrRange},
		{"a weight below 0", proof([]int{1, 4}, "1", "-1/7"), api.ErrRange},
		{"two weights below 0", proof([]int{1, 4}, "-1", "-1"), api.ErrRange},
		{"other weights", proof([]int{1, 4}, "2", "1"), api.ErrProof},
		{"a single wall", proof([]int{4}, "1"), api.ErrProof},
		{"Y that are not 0", proof([]int{1, 2, 4}, "1", "1", "1"), api.ErrProof},
		{"a sum above 0", proof([]int{5, 6}, "1", "1"), api.ErrProof},
		{"a sum of 0", proof([]int{0, 1, 4}, "1", "2", "1"), api.ErrProof},
		{"the last wall of the limit", proof([]int{2, 8}, "1", "1"), api.ErrProof},
	} {
		same(t, c.what, insert.CheckRefute(w, 2, c.p), c.e)
	}
	for _, n := range faultyNumbers() {
		same(t, n.what, insert.CheckRefute(w, 2, proof([]int{1, 4}, "1", string(n.arg))), n.e)
	}
}

func TestErrorsBeforeProofs(t *testing.T) {
	for _, w := range faultyWalls() {
		p, e := insert.Refute(w.arg, 0)
		refused(t, "Refute: "+w.what, p, e, w.e)
		same(t, "CheckRefute: "+w.what, insert.CheckRefute(w.arg, 0, insert.Proof{}), w.e)
	}
	for _, steep := range faultyLimits() {
		p, e := insert.Refute(chapter(at(0, 0, -1)), steep)
		refused(t, "Refute", p, e, api.ErrRange)
		same(t, "CheckRefute", insert.CheckRefute(chapter(at(0, 0, -1)), steep, insert.Proof{}), api.ErrRange)
		l, e := insert.Conflict([][]api.Cell{{at(0, 0, -1)}}, steep)
		refused(t, "Conflict", l, e, api.ErrRange)
	}
	for _, g := range faultyGroups() {
		l, e := insert.Conflict(g.arg, 0)
		refused(t, "Conflict: "+g.what, l, e, g.e)
	}
}

func TestProofsOfTheChapter(t *testing.T) {
	for _, c := range []struct {
		what  string
		walls []api.Cell
		p     insert.Proof
	}{
		{"W and a further wall", chapter(at(1, 0, -2)), proof([]int{1, 4}, "1", "1")},
		{"three walls", []api.Cell{at(1, 0, -1), at(-1, 1, 0), at(0, -1, 0)}, proof([]int{0, 1, 2}, "1", "1", "1")},
		{"a wall that never permits", []api.Cell{at(0, 0, 1), at(0, 0, -1)}, proof([]int{1}, "3/7")},
		{"with one that always does", []api.Cell{at(0, 0, 1), at(0, 0, -1)}, proof([]int{0, 1}, "1", "2")},
		{"a wall and the limit", []api.Cell{at(1, 0, -3)}, proof([]int{0, 2}, "1/3", "1/3")},
		{"a wall and two of the limit", []api.Cell{at(1, 1, -5)}, proof([]int{0, 2, 4}, "1", "1", "1")},
		{"three on one line", []api.Cell{at(2, 0, -1), at(-3, 0, -1), at(1, 0, 1)}, proof([]int{0, 1, 2}, "1", "1", "1")},
	} {
		same(t, "a proof of "+c.what, insert.CheckRefute(c.walls, 2, c.p), api.OK)
		p := fine[insert.Proof](t)(insert.Refute(c.walls, 2))
		same(t, "CheckRefute of Refute: "+c.what, insert.CheckRefute(c.walls, 2, p), api.OK)
		same(t, "Refute: "+c.what, isProof(c.walls, 2, p), true)
	}
	for _, walls := range [][]api.Cell{nil, chapter(), {at(1, 0, -2)}, {at(1, 1, -4)}, {at(0, 0, 1)}, {at(1, 0, 0), at(-1, 0, 0), at(0, 1, 0), at(0, -1, 0)}} {
		p, e := insert.Refute(walls, 2)
		refused(t, "Refute of some", p, e, api.ErrNone)
	}
}

func TestProofs(t *testing.T) {
	r := dice()
	sizes := map[int]int{}
	for i := range 4000 {
		steep := between(r, 1, 8)
		walls := steepWalls(r, 6, []int{1, 2, 5, 1000}[i%4])
		if polygonOf(walls, steep) != nil {
			p, e := insert.Refute(walls, steep)
			refused(t, "Refute of some", p, e, api.ErrNone)
			continue
		}
		p := fine[insert.Proof](t)(insert.Refute(walls, steep))
		if !isProof(walls, steep, p) {
			t.Fatalf("%v with the limit %d: no proof %v", walls, steep, p)
		}
		sizes[len(p.Walls)]++
	}
	for size := 1; size <= 3; size++ {
		if sizes[size] < 50 {
			t.Errorf("%d proofs with %d walls", sizes[size], size)
		}
	}
}

// TestCheckRefute asks for all sets of up to three of a few walls, with some weights.
func TestCheckRefute(t *testing.T) {
	r := dice()
	proofs := 0
	for i := range 800 {
		steep := between(r, 1, 2)
		walls := steepWalls(r, 4, 1+i%4/3)
		for set := range 1 << (len(walls) + 4) {
			var p insert.Proof
			for n := range len(walls) + 4 {
				if set&(1<<n) != 0 {
					p.Walls = append(p.Walls, n)
					p.Weights = append(p.Weights, api.Rat(ratio(between(r, 1, 2), between(r, 1, 2)).RatString()))
				}
			}
			if len(p.Walls) < 1 || len(p.Walls) > 3 {
				continue
			}
			wanted := api.ErrProof
			if isProof(walls, steep, p) {
				wanted = api.OK
				proofs++
			}
			if got := insert.CheckRefute(walls, steep, p); got != wanted {
				t.Fatalf("%v with the limit %d: got %d for %v", walls, steep, got, p)
			}
		}
	}
	if proofs < 60 {
		t.Errorf("only %d proofs", proofs)
	}
}

// TestWeightsWithManyDigits has weights whose sums have three times the digits of a number.
func TestWeightsWithManyDigits(t *testing.T) {
	a, b := nines(599)+"8/"+nines(600), "7"+strings.Repeat("3", 598)+"/2"+strings.Repeat("7", 598)
	total := new(big.Rat).Add(value(api.Rat(a)), value(api.Rat(b)))
	if len(total.Num().String()) <= 600 {
		t.Fatalf("the sum has only %d digits", len(total.Num().String()))
	}
	upright := []api.Cell{at(0, 0, 1000), at(0, 0, -1000), at(0, 0, -1)}
	bigger, smaller := nines(600), nines(599)+"8"
	for _, c := range []struct {
		what  string
		walls []api.Cell
		p     insert.Proof
		e     api.Errno
	}{
		{"the same weights", upright, proof([]int{0, 1}, bigger, bigger), api.ErrProof},
		{"the same weights, and a tiny one", upright, proof([]int{0, 1, 2}, bigger, bigger, "1/"+bigger), api.OK},
		{"a weight above", upright, proof([]int{0, 1}, smaller, bigger), api.OK},
		{"a weight below", upright, proof([]int{0, 1}, bigger, smaller), api.ErrProof},
		{"fractions, the one above", upright, proof([]int{0, 1}, "1/"+bigger, "1/"+smaller), api.OK},
		{"fractions, the one below", upright, proof([]int{0, 1}, "1/"+smaller, "1/"+bigger), api.ErrProof},
		{"a wall that is far too steep", []api.Cell{at(1, 1, -1000)}, proof([]int{0, 2, 4}, a, a, a), api.OK},
		{"other weights at three walls", []api.Cell{at(1, 1, -1000)}, proof([]int{0, 2, 4}, a, a, b), api.ErrProof},
		{"X that are nearly 0", []api.Cell{at(1, 0, -1000), at(-1, 0, 0)}, proof([]int{0, 1}, bigger, smaller), api.ErrProof},
		{"X that are 0", []api.Cell{at(1, 0, -1), at(-1, 0, 0)}, proof([]int{0, 1}, a, a), api.OK},
		{"Y that are nearly 0", []api.Cell{at(0, 1, -1000), at(0, -1, 0)}, proof([]int{0, 1}, bigger, smaller), api.ErrProof},
	} {
		same(t, c.what, insert.CheckRefute(c.walls, 8, c.p), c.e)
	}
	r := dice()
	for range 20 {
		// Three walls on one line: two of the weights are free, the third one is told by them.
		m, n := between(r, 1, 999), between(r, 1, 999)
		x, y := value(api.Rat("1"+strings.Repeat("3", between(r, 200, 280)))), value(api.Rat("1/"+nines(between(r, 200, 280))))
		z := new(big.Rat).Add(new(big.Rat).Mul(x, ratio(m, 1)), new(big.Rat).Mul(y, ratio(n, 1)))
		walls := []api.Cell{at(m, -m, -1), at(n, -n, -1), at(-1, 1, -1)}
		p := proof([]int{0, 1, 2}, x.RatString(), y.RatString(), z.RatString())
		same(t, "weights of a line", insert.CheckRefute(walls, 8, p), api.OK)
		p.Weights[1] = api.Rat("1/" + nines(281))
		same(t, "nearly weights of a line", insert.CheckRefute(walls, 8, p), api.ErrProof)
	}
}

func TestConflictOfTheChapter(t *testing.T) {
	flat := [][]api.Cell{{at(1, 0, -1)}, {at(-1, 1, 0)}, {at(0, -1, 0)}}
	for _, c := range []struct {
		what     string
		groups   [][]api.Cell
		conflict []int
	}{
		{"three groups", flat, []int{0, 1, 2}},
		{"the same three behind others", [][]api.Cell{nil, {at(0, 0, 1)}, flat[0], flat[1], nil, flat[2]}, []int{2, 3, 5}},
		{"a smaller set behind a larger one", slices.Concat(flat, [][]api.Cell{{at(1, 0, -2)}, {at(-1, 0, 1)}}), []int{3, 4}},
		{"of two the first one", [][]api.Cell{{at(1, 0, -1)}, {at(0, 1, -1)}, {at(0, -1, 0)}, {at(-1, 0, 0)}}, []int{0, 3}},
		{"a group that has no tilt", [][]api.Cell{{at(1, 0, -1)}, {at(-1, 0, 0)}, {at(1, 0, -3)}}, []int{2}},
		{"a group with several walls", [][]api.Cell{{at(1, 0, 0)}, chapter(at(1, 0, -1)), {at(2, 1, 0), at(-2, 0, 1)}}, []int{1, 2}},
		{"two groups of three that meet in a pair", [][]api.Cell{{at(1, 0, 0)}, {at(1, 0, -1)}, {at(-1, 0, 0)}}, []int{1, 2}},
	} {
		same(t, c.what, fine[[]int](t)(insert.Conflict(c.groups, 2)), c.conflict)
	}
	for _, groups := range [][][]api.Cell{nil, {nil, nil}, flat[:2], flat[1:], {{at(1, 0, 0)}, {at(-1, 0, 0)}}, {chapter(), chapter()}} {
		l, e := insert.Conflict(groups, 2)
		refused(t, "groups with a common tilt", l, e, api.ErrNone)
	}
	l, e := insert.Conflict([][]api.Cell{{at(1, 0, -3)}}, 3)
	refused(t, "a steep group", l, e, api.ErrNone)
	same(t, "a smaller limit", fine[[]int](t)(insert.Conflict([][]api.Cell{{at(1, 0, -3)}}, 2)), []int{0})
}

// conflictOf returns the conflict of groups by the definition, or nothing.
func conflictOf(groups [][]api.Cell, steep int) []int {
	var best []int
	for set := range 1 << len(groups) {
		var members []int
		var walls []api.Cell
		for n, g := range groups {
			if set&(1<<n) != 0 {
				members = append(members, n)
				walls = append(walls, g...)
			}
		}
		isBetter := best == nil || len(members) < len(best) || len(members) == len(best) && slices.Compare(members, best) < 0
		if isBetter && polygonOf(walls, steep) == nil {
			best = members
		}
	}
	return best
}

func TestConflict(t *testing.T) {
	r := dice()
	sizes := map[int]int{}
	for i := range 1000 {
		steep := between(r, 1, 4)
		var groups [][]api.Cell
		for range between(r, 0, 6) {
			g := steepWalls(r, 2, []int{1, 3, 1000}[i%3])
			// Most groups permit some tilt alone: else there would be hardly any other conflicts.
			if polygonOf(g, steep) != nil || r.IntN(4) == 0 {
				groups = append(groups, g)
			}
		}
		wanted := conflictOf(groups, steep)
		sizes[len(wanted)]++
		got, e := insert.Conflict(groups, steep)
		if wanted == nil {
			refused(t, "groups with a common tilt", got, e, api.ErrNone)
			continue
		}
		same(t, "Conflict", fine[[]int](t)(got, e), wanted)
	}
	if sizes[0] < 50 || sizes[1] < 20 || sizes[2] < 50 || sizes[3] < 20 {
		t.Errorf("the sizes of the conflicts: %v", sizes)
	}
}

// TestLargestGroups has as many groups and walls as permitted.
func TestLargestGroups(t *testing.T) {
	ring := roundWalls(62)
	var groups [][]api.Cell
	for range insert.MaxGroups {
		groups = append(groups, slices.Clone(ring))
	}
	l, e := insert.Conflict(groups, 8)
	refused(t, "eight times the same", l, e, api.ErrNone)
	p, e := insert.Refute(ring, 8)
	refused(t, "Refute of the greatest size", p, e, api.ErrNone)
	groups[3] = append(groups[3], at(1, 0, 0))
	groups[5] = append(groups[5], at(-1, 1, 0))
	groups[7] = append(groups[7], at(-1, -1000, -1), at(0, 0, 1))
	same(t, "three of eight", fine[[]int](t)(insert.Conflict(groups, 8)), []int{3, 5, 7})
	all := slices.Concat(ring[:60], []api.Cell{at(1, 0, 0), at(-1, 1, 0), at(-1, -1000, -1), at(0, 0, 1)})
	q := fine[insert.Proof](t)(insert.Refute(all, 8))
	same(t, "its proof", isProof(all, 8, q), true)
}

func TestProofsKeepTheirArguments(t *testing.T) {
	walls := chapter(at(1, 0, -2))
	copied := slices.Clone(walls)
	p := fine[insert.Proof](t)(insert.Refute(walls, 2))
	q := insert.Proof{Walls: slices.Clone(p.Walls), Weights: slices.Clone(p.Weights)}
	same(t, "CheckRefute", insert.CheckRefute(walls, 2, q), api.OK)
	same(t, "the proof", q, p)
	same(t, "the walls", walls, copied)
	groups := [][]api.Cell{{at(1, 0, -1)}, {at(-1, 1, 0)}, {at(0, -1, 0)}}
	l := fine[[]int](t)(insert.Conflict(groups, 2))
	l[0] = 9
	same(t, "another result", fine[[]int](t)(insert.Conflict(groups, 2)), []int{0, 1, 2})
	same(t, "the groups", slices.Concat(groups...), []api.Cell{at(1, 0, -1), at(-1, 1, 0), at(0, -1, 0)})
}
