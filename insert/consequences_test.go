package insert_test

import (
	"slices"
	"testing"

	"cusp/api"
	"cusp/insert"
)

// TestTiltsOrProof: there are permitted tilts, or a proof that there are none, never both.
func TestTiltsOrProof(t *testing.T) {
	r := dice()
	seen := map[bool]int{}
	for i := range 1500 {
		steep := between(r, 1, 8)
		walls := steepWalls(r, 8, []int{1, 3, 1000}[i%3])
		corners, e := insert.Tilts(walls, steep)
		p, errorOfProof := insert.Refute(walls, steep)
		seen[e == api.OK]++
		if e == api.OK {
			same(t, "a proof beside tilts", errorOfProof, api.ErrNone)
			same(t, "corners", len(corners) > 0, true)
			continue
		}
		same(t, "no tilts", e, api.ErrInfeasible)
		same(t, "a proof", errorOfProof, api.OK)
		same(t, "CheckRefute", insert.CheckRefute(walls, steep, p), api.OK)
	}
	if seen[true] < 200 || seen[false] < 200 {
		t.Errorf("tilts were seen %d times, proofs %d times", seen[true], seen[false])
	}
}

// TestBetweenCorners: each corner, the middle, and whatever lies between corners is permitted; a corner lies between no others.
func TestBetweenCorners(t *testing.T) {
	r := dice()
	for i := range 400 {
		steep := between(r, 1, 8)
		walls := randomWalls(r, 12, []int{2, 9, 1000}[i%3])
		corners, e := insert.Tilts(walls, steep)
		if e != api.OK {
			continue
		}
		permitted := []insert.Tilt{fine[insert.Tilt](t)(insert.Middle(walls, steep))}
		for k, c := range corners {
			d, f := corners[r.IntN(len(corners))], corners[r.IntN(len(corners))]
			inside := pointOf(c).towards(pointOf(d), ratio(r.IntN(8), 7)).towards(pointOf(f), ratio(r.IntN(8), 7))
			permitted = append(permitted, c, inside.tilt())
			n := len(corners)
			if n > 2 && turning(pointOf(corners[(k+n-1)%n]), pointOf(c), pointOf(corners[(k+1)%n])) <= 0 {
				t.Fatalf("no turn to the left at %v of %v", c, corners)
			}
			if k > 0 && pointOf(corners[0]).compare(pointOf(c)) >= 0 {
				t.Fatalf("%v is not the least corner of %v", corners[0], corners)
			}
		}
		for _, p := range permitted {
			same(t, "Permits", fine[bool](t)(insert.Permits(walls, steep, p)), true)
			same(t, "Hinders", fine[[]int](t)(insert.Hinders(walls, steep, p)), nil)
		}
		// Beyond a corner, as seen from the middle, nothing is permitted.
		if len(corners) > 1 {
			beyond := pointOf(permitted[0]).towards(pointOf(corners[r.IntN(len(corners))]), ratio(1001, 1000))
			same(t, "beyond a corner", fine[bool](t)(insert.Permits(walls, steep, beyond.tilt())), false)
		}
	}
}

// TestFurtherWalls: a further wall never permits more, nor does a smaller limit.
func TestFurtherWalls(t *testing.T) {
	r := dice()
	for i := range 600 {
		steep, size := between(r, 1, 7), []int{1, 3, 1000}[i%3]
		walls := randomWalls(r, 8, size)
		further := append(slices.Clone(walls), randomVector(r, size))
		if insert.CheckWalls(further) != api.OK {
			continue
		}
		corners, e := insert.Tilts(further, steep)
		for _, c := range corners {
			same(t, "Permits with fewer walls", fine[bool](t)(insert.Permits(walls, steep, c)), true)
			same(t, "Permits with a larger limit", fine[bool](t)(insert.Permits(further, steep+1, c)), true)
		}
		_, errorOfFewer := insert.Tilts(walls, steep)
		if errorOfFewer != api.OK && e == api.OK {
			t.Fatalf("with a further wall there are tilts: %v", further)
		}
		p := point{ratio(between(r, -9, 9), between(r, 1, 3)), ratio(between(r, -9, 9), between(r, 1, 3))}.tilt()
		fewer := fine[bool](t)(insert.Permits(walls, steep, p))
		more := fine[bool](t)(insert.Permits(further, steep, p))
		same(t, "what more walls permit", more && !fewer, false)
	}
}

// TestThreeConflict: groups without a common tilt have at most three that conflict, and none of them can be left out.
func TestThreeConflict(t *testing.T) {
	r := dice()
	conflicts := 0
	for i := range 500 {
		steep := between(r, 1, 4)
		var groups [][]api.Cell
		for range between(r, 1, 8) {
			groups = append(groups, steepWalls(r, 2, []int{1, 3, 1000}[i%3]))
		}
		l, e := insert.Conflict(groups, steep)
		_, errorOfAll := insert.Tilts(slices.Concat(groups...), steep)
		same(t, "groups without a common tilt", e == api.OK, errorOfAll == api.ErrInfeasible)
		if e != api.OK {
			continue
		}
		conflicts++
		same(t, "at most three", len(l) >= 1 && len(l) <= 3, true)
		var chosen [][]api.Cell
		for _, n := range l {
			chosen = append(chosen, groups[n])
		}
		_, e = insert.Tilts(slices.Concat(chosen...), steep)
		same(t, "the conflict", e, api.ErrInfeasible)
		for k := range chosen {
			_, e := insert.Tilts(slices.Concat(slices.Delete(slices.Clone(chosen), k, k+1)...), steep)
			same(t, "with a group left out", e, api.OK)
		}
	}
	if conflicts < 100 {
		t.Errorf("only %d conflicts", conflicts)
	}
}

// some returns a random subset.
func some(l []api.Cell, n int) []api.Cell {
	var out []api.Cell
	for i, c := range l {
		if n>>(i%60)&1 == 1 {
			out = append(out, c)
		}
	}
	return out
}

// getsOut reports whether a part gets out of a base.
func getsOut(part, base []api.Cell, d api.Cell) bool {
	_, _, e := insert.Stuck(part, base, d)
	return e == api.ErrNone
}

// TestPartsOfSets: a part that gets out of a base gets out of each part of the base, and each part of it gets out.
func TestPartsOfSets(t *testing.T) {
	r := dice()
	for range 2000 {
		part, base, d := randomSet(r, 5, at(-2, -2, -2), at(2, 2, 2)), randomSet(r, 8, at(-3, -3, 0), at(3, 3, 4)), randomDirection(r)
		if !getsOut(part, base, d) {
			// What is stuck hits one of its cells with one of the base.
			k, there, _ := insert.Stuck(part, base, d)
			by := fine[api.Cell](t)(insert.Way(d, k))
			from := at(there.X-by.X, there.Y-by.Y, there.Z-by.Z)
			same(t, "a cell of the part", slices.Contains(part, from), true)
			same(t, "a cell of the base", slices.Contains(base, there), true)
			same(t, "both alone", getsOut([]api.Cell{from}, []api.Cell{there}, d), false)
			continue
		}
		same(t, "part of the base", getsOut(part, some(base, r.Int()), d), true)
		same(t, "part of the part", getsOut(some(part, r.Int()), base, d), true)
	}
}

// TestBlockouts: a part within the block of a base that has no cell of its blockout gets out; one with an undercut does not.
func TestBlockouts(t *testing.T) {
	r := dice()
	for range 1000 {
		base, d := randomSet(r, 8, at(-2, -2, -2), at(2, 2, 3)), randomDirection(r)
		blockout := fine[[]api.Cell](t)(insert.Blockout(base, d))
		undercuts := fine[[]api.Cell](t)(insert.Undercuts(base, d))
		var free []api.Cell
		for _, c := range blockOf(base) {
			if !slices.Contains(blockout, c) {
				free = append(free, c)
			}
		}
		same(t, "all free cells", getsOut(free, base, d), true)
		same(t, "some free cells", getsOut(some(free, r.Int()), base, d), true)
		for _, c := range undercuts {
			same(t, "an undercut", getsOut(setOf(append(some(free, r.Int()), c)...), base, d), false)
		}
		same(t, "the blockout", len(blockout), len(base)+len(undercuts))
		// With the Z 1, what comes to an undercut goes on like this one.
		if d.Z == 1 {
			same(t, "the undercuts of the blockout", fine[[]api.Cell](t)(insert.Undercuts(blockout, d)), nil)
		}
	}
}

// TestFewerParts: what can be taken out can be taken out when fewer parts are there; an order is one that is checked.
func TestFewerParts(t *testing.T) {
	r := dice()
	for range 600 {
		a := randomAssembly(r)
		locked := fine[[]int](t)(insert.Locked(a.parts, a.base, a.d))
		if order, e := insert.Order(a.parts, a.base, a.d); e == api.OK {
			same(t, "CheckOrder of Order", fine[int](t)(insert.CheckOrder(a.parts, a.base, a.d, order)), 0)
		}
		if len(a.parts) == 0 {
			continue
		}
		out := r.IntN(len(a.parts))
		fewer := slices.Delete(slices.Clone(a.parts), out, out+1)
		for _, n := range fine[[]int](t)(insert.Locked(fewer, a.base, a.d)) {
			if n >= out {
				n++
			}
			same(t, "locked with more parts, too", slices.Contains(locked, n), true)
		}
		for _, n := range fine[[]int](t)(insert.Locked(a.parts, nil, a.d)) {
			same(t, "locked with a base, too", slices.Contains(locked, n), true)
		}
	}
}

// TestHeldParts: what is locked is held by the base or by locked parts, and what is not locked is not.
func TestHeldParts(t *testing.T) {
	r := dice()
	held := 0
	for range 600 {
		a := randomAssembly(r)
		locked := fine[[]int](t)(insert.Locked(a.parts, a.base, a.d))
		held += len(locked)
		for _, n := range locked {
			isHeld := !getsOut(a.parts[n], a.base, a.d)
			for _, other := range locked {
				isHeld = isHeld || other != n && !getsOut(a.parts[n], a.parts[other], a.d)
			}
			same(t, "a locked part is held", isHeld, true)
		}
	}
	if held < 100 {
		t.Errorf("only %d locked parts", held)
	}
}
