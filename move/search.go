package move

import (
	"iter"
	"maps"
	"slices"

	"cusp/api"
	"cusp/grid"
)

// search is a small case, with the places of the search of each tooth, ascending.
type search struct {
	bench
	places [][]Place
}

// searchOf returns the search of a case, or the first error of the case, or ErrLimit if it is not small.
func searchOf(c Case) (search, api.Errno) {
	b, e := benchOf(c)
	if e != api.OK {
		return search{}, e
	}
	product := 1
	var places [][]Place
	for tooth := range c.Teeth {
		l, e := b.placesOf(tooth)
		if e != api.OK {
			return search{}, e
		}
		// Each tooth has its place From at least, so the product never becomes less.
		product *= len(l)
		if product > MaxStates {
			return search{}, api.ErrLimit
		}
		places = append(places, l)
	}
	return search{b, places}, api.OK
}

// placesOf returns the places of the search of a tooth, ascending, or ErrLimit if there are more than a small case has.
func (b bench) placesOf(tooth int) ([]Place, api.Errno) {
	t := b.Teeth[tooth]
	if t.Fixed {
		return []Place{t.From}, api.OK
	}
	var l []Place
	for turn := range 4 {
		if b.Turn == 0 && turn != t.From.Turn {
			continue
		}
		shifts, e := grid.Block(b.shifts(tooth, turn))
		if e == api.ErrMany {
			return nil, api.ErrLimit
		}
		// All other errors are those of a box without cells.
		l = append(l, listOf(shifts, func(at api.Cell) Place { return Place{At: at, Turn: turn} })...)
	}
	slices.SortFunc(l, Place.compare)
	return l, api.OK
}

// shifts returns the box of the shifts by which all cells of a turned tooth are in the box of the case. If there are none, some of its low ends are above the high ones.
func (b bench) shifts(tooth, turn int) grid.Box {
	box := b.body(tooth, Place{Turn: turn}).box
	low, high := minus(b.Low, box.Low), minus(b.High, box.High)
	return grid.Box{
		Low:  api.Cell{X: max(low.X, -api.MaxSize), Y: max(low.Y, -api.MaxSize), Z: max(low.Z, -api.MaxSize)},
		High: api.Cell{X: min(high.X, api.MaxSize), Y: min(high.Y, api.MaxSize), Z: min(high.Z, api.MaxSize)},
	}
}

// states returns the valid states with places of the search, ascending.
func (s search) states() [][]Place {
	l := [][]Place{nil}
	for tooth, places := range s.places {
		var longer [][]Place
		for _, before := range l {
			for _, p := range places {
				// One place more, and no room to append another one to the same memory.
				with := make([]Place, tooth+1)
				copy(with, before)
				with[tooth] = p
				if s.checkTooth(with, tooth) == api.OK {
					longer = append(longer, with)
				}
			}
		}
		l = longer
	}
	return l
}

// split returns those of other states to which a stage leads from one of some states, and those to which none does.
func (c Case) split(states, others [][]Place) (next, rest [][]Place) {
search:
	for _, t := range others {
		for _, s := range states {
			if c.permits(s, t) {
				next = append(next, t)
				continue search
			}
		}
		rest = append(rest, t)
	}
	return next, rest
}

// layers visits the states that can be reached from one of them, as long as there are more: at first this one, then those for which one stage is enough, then those for which two are, and so on. Each list ascends.
func (s search) layers(start []Place) iter.Seq[[][]Place] {
	return func(yield func([][]Place) bool) {
		isStart := func(t []Place) bool { return slices.Equal(t, start) }
		layer, left := [][]Place{start}, slices.DeleteFunc(s.states(), isStart)
		for len(layer) > 0 && yield(layer) {
			layer, left = s.split(layer, left)
		}
	}
}

// reached returns the states that can be reached, by their texts.
func (s search) reached() map[string][]Place {
	met := map[string][]Place{}
	for layer := range s.layers(s.from()) {
		for _, t := range layer {
			met[text(t)] = t
		}
	}
	return met
}

// shortest returns the first one of the shortest plans, if there is a plan.
func (s search) shortest() ([][]Place, bool) {
	from := s.from()
	isFrom := func(t []Place) bool { return slices.Equal(t, from) }
	// Stages lead in both directions, so the layers around the places To tell how many stages are left in each state.
	var layers [][][]Place
	for layer := range s.layers(s.to()) {
		if slices.ContainsFunc(layer, isFrom) {
			return s.inwards(from, layers), true
		}
		layers = append(layers, layer)
	}
	return nil, false
}

// inwards returns the first one of the plans that go from a state through all layers, from the last one to the first one.
func (c Case) inwards(from []Place, layers [][][]Place) [][]Place {
	plan := [][]Place{from}
	for _, layer := range slices.Backward(layers) {
		next := slices.IndexFunc(layer, func(t []Place) bool { return c.permits(plan[len(plan)-1], t) })
		plan = append(plan, layer[next])
	}
	return plan
}

// Shortest returns the first one of the shortest plans.
func Shortest(c Case) ([][]Place, api.Errno) {
	s, e := searchOf(c)
	if e != api.OK {
		return nil, e
	}
	plan, found := s.shortest()
	if !found {
		return nil, api.ErrInfeasible
	}
	return plan, api.OK
}

// Reach returns the number of states that can be reached.
func Reach(c Case) (int, api.Errno) {
	s, e := searchOf(c)
	if e != api.OK {
		return 0, e
	}
	return len(s.reached()), api.OK
}

// Refute returns the states that can be reached, if the wanted one cannot.
func Refute(c Case) ([][]Place, api.Errno) {
	s, e := searchOf(c)
	if e != api.OK {
		return nil, e
	}
	met := s.reached()
	if _, found := met[text(s.to())]; found {
		return nil, api.ErrNone
	}
	return slices.SortedFunc(maps.Values(met), compareStates), api.OK
}

// checkAscending returns the first error of states that have to ascend, or OK.
func (b bench) checkAscending(states [][]Place) api.Errno {
	if len(states) > MaxStates {
		return api.ErrMany
	}
	for i, s := range states {
		if e := b.checkState(s); e != api.OK {
			return e
		}
		if i > 0 && compareStates(states[i-1], s) >= 0 {
			return api.ErrOrder
		}
	}
	return api.OK
}

// isProof reports whether valid states prove that there is no plan.
func (s search) isProof(states [][]Place) bool {
	listed := map[string]bool{}
	for _, t := range states {
		listed[text(t)] = true
	}
	if !listed[text(s.from())] || listed[text(s.to())] {
		return false
	}
	others := slices.DeleteFunc(s.states(), func(t []Place) bool { return listed[text(t)] })
	next, _ := s.split(states, others)
	return len(next) == 0
}

// CheckRefute returns OK for states that prove that there is no plan.
func CheckRefute(c Case, states [][]Place) api.Errno {
	s, e := searchOf(c)
	if e != api.OK {
		return e
	}
	if e := s.checkAscending(states); e != api.OK {
		return e
	}
	return when(!s.isProof(states), api.ErrProof)
}

// Held returns the numbers of the teeth that cannot move, though they are not fixed.
func Held(c Case) ([]int, api.Errno) {
	s, e := searchOf(c)
	if e != api.OK {
		return nil, e
	}
	from, moved := s.from(), map[int]bool{}
	for _, t := range s.reached() {
		for tooth, p := range t {
			if p != from[tooth] {
				moved[tooth] = true
			}
		}
	}
	var held []int
	for tooth, t := range c.Teeth {
		if !t.Fixed && !moved[tooth] {
			held = append(held, tooth)
		}
	}
	return held, api.OK
}
