package mill

import (
	"cmp"
	"slices"

	"cusp/api"
	"cusp/grid"
)

// takers returns for each cell of the blank, as they are ordered, the operations that take it away, as a set.
func (s Setup) takers(l []Op) []opSet {
	out := make([]opSet, volume(s.Blank))
	for i, o := range l {
		for _, c := range s.reach(o) {
			out[index(s.Blank, c)] |= 1 << i
		}
	}
	return out
}

// opSet is a set of operations: the bit i is that of the operation i.
type opSet uint64

// numbers returns the numbers of the operations, ascending.
func (set opSet) numbers() []int {
	var l []int
	for i := range MaxOps {
		if set>>i&1 == 1 {
			l = append(l, i)
		}
	}
	return l
}

// left returns the cells that operations without errors leave.
func (s Setup) left(l []Op) []api.Cell {
	takers := s.takers(l)
	block, _ := grid.Block(s.Blank)
	beside, _ := grid.Less(block, s.Part)
	return slices.DeleteFunc(beside, func(c api.Cell) bool { return takers[index(s.Blank, c)] != 0 })
}

// Left returns the cells that operations leave beside the part.
func Left(s Setup, l []Op) ([]api.Cell, api.Errno) {
	if e := checkOps(s, l); e != api.OK {
		return nil, e
	}
	return s.left(l), api.OK
}

// Removed returns how many further cells each operation takes away.
func Removed(s Setup, l []Op) ([]int, api.Errno) {
	if e := checkOps(s, l); e != api.OK {
		return nil, e
	}
	out := make([]int, len(l))
	for _, set := range s.takers(l) {
		if set != 0 {
			out[set.numbers()[0]]++
		}
	}
	return out, api.OK
}

// CheckMilled returns OK if operations leave the part alone.
func CheckMilled(s Setup, l []Op) api.Errno {
	if e := checkOps(s, l); e != api.OK {
		return e
	}
	return when(len(s.left(l)) > 0, api.ErrTool)
}

// compareNumbers orders lists of numbers by their lengths, then lexicographically.
func compareNumbers(a, b []int) int {
	return cmp.Or(cmp.Compare(len(a), len(b)), slices.Compare(a, b))
}

// Fewest returns the numbers of the fewest operations that leave no more than all of them.
func Fewest(s Setup, l []Op) ([]int, api.Errno) {
	if e := first(checkOps(s, l), when(len(l) > api.MaxExact, api.ErrLimit)); e != api.OK {
		return nil, e
	}
	takers := s.takers(l)
	slices.Sort(takers)
	takers = slices.DeleteFunc(slices.Compact(takers), func(set opSet) bool { return set == 0 })
	var enough [][]int
	for n := range 1 << len(l) {
		set := opSet(n)
		isMissed := func(cell opSet) bool { return cell&set == 0 }
		if !slices.ContainsFunc(takers, isMissed) {
			enough = append(enough, set.numbers())
		}
	}
	return slices.MinFunc(enough, compareNumbers), api.OK
}
