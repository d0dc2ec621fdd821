package measure_test

import (
	"fmt"
	"slices"
	"strings"
	"testing"

	"cusp/api"
	"cusp/measure"
)

// vectors returns vectors that are out of their range.
func vectors() []api.Cell {
	return []api.Cell{at(2001, 0, 0), at(-2001, 0, 0), at(0, 2001, 0), at(0, -2001, 0), at(0, 0, 2001), at(0, 0, -2001), at(least, 0, 0), at(0, greatest, 0), at(0, 0, least)}
}

// corner returns an arch with all landmarks at one cell.
func corner(c api.Cell) measure.Arch { return arch(tooth("a", c, c, c)) }

func TestMirrored(t *testing.T) {
	want := arch(
		tooth("r", at(0, 0, 1), at(3, 4, 1), at(1, 1, 5)),
		tooth("q", at(4, 4, 0), at(8, 4, 0), at(6, 5, 3)),
		tooth("p", at(9, 4, 0), at(12, 0, 0), at(11, 1, 5)),
	)
	same(t, "Mirrored", fine[measure.Arch](t)(measure.Mirrored(chapter(), 12)), want)
	same(t, "Mirrored at an odd plane", fine[measure.Arch](t)(measure.Mirrored(arch(chapter().Teeth[0]), -3)), arch(tooth("p", at(-6, 4, 0), at(-3, 0, 0), at(-4, 1, 5))))
	same(t, "Mirrored from border to border", fine[measure.Arch](t)(measure.Mirrored(corner(at(1000, 1000, -1000)), 0)), corner(at(-1000, 1000, -1000)))
	same(t, "Mirrored at the border", fine[measure.Arch](t)(measure.Mirrored(corner(at(-1000, 5, 5)), -2000)), corner(at(-1000, 5, 5)))
	for _, plane := range []int{0, 4000, -4000} {
		same(t, "Mirrored nothing", fine[measure.Arch](t)(measure.Mirrored(measure.Arch{}, plane)), measure.Arch{})
	}
	r := dice()
	for n := range 33 {
		a, plane := randomArch(r, n, 400), r.IntN(1001)-500
		got := fine[measure.Arch](t)(measure.Mirrored(a, plane))
		same(t, "the number of mirrored teeth", len(got.Teeth), n)
		for i, tooth := range a.Teeth {
			mirror := got.Teeth[n-1-i]
			same(t, "the mirrored name", mirror.Name, tooth.Name)
			same(t, "the mirrored Left", mirror.Left, at(plane-tooth.Right.X, tooth.Right.Y, tooth.Right.Z))
			same(t, "the mirrored Right", mirror.Right, at(plane-tooth.Left.X, tooth.Left.Y, tooth.Left.Z))
			same(t, "the mirrored Tip", mirror.Tip, at(plane-tooth.Tip.X, tooth.Tip.Y, tooth.Tip.Z))
		}
	}
}

func TestFaultyMirrored(t *testing.T) {
	for _, plane := range []int{4001, -4001, least, greatest} {
		for _, a := range []measure.Arch{chapter(), {}} {
			got, e := measure.Mirrored(a, plane)
			refused(t, "Mirrored at no plane", got, e, api.ErrRange)
		}
	}
	// The landmarks of A have an X from 0 to 12.
	same(t, "Mirrored to the border", fine[measure.Arch](t)(measure.Mirrored(chapter(), 1000)).Teeth[2].Right.X, 1000)
	same(t, "Mirrored to the other border", fine[measure.Arch](t)(measure.Mirrored(chapter(), -988)).Teeth[0].Left.X, -1000)
	for _, plane := range []int{1001, -989, 2000, 4000, -4000} {
		got, e := measure.Mirrored(chapter(), plane)
		refused(t, "Mirrored beyond the border", got, e, api.ErrRange)
	}
	for i := range 3 {
		marks := [3]api.Cell{}
		marks[i].X = -1
		got, e := measure.Mirrored(arch(tooth("a", marks[0], marks[1], marks[2])), 1000)
		refused(t, "Mirrored with one landmark beyond the border", got, e, api.ErrRange)
	}
}

func TestShifted(t *testing.T) {
	want := arch(
		tooth("p", at(1, -1, 2), at(4, 3, 2), at(2, 0, 7)),
		tooth("q", at(5, 3, 2), at(9, 3, 2), at(7, 4, 5)),
		tooth("r", at(10, 3, 3), at(13, -1, 3), at(12, 0, 7)),
	)
	same(t, "Shifted", fine[measure.Arch](t)(measure.Shifted(chapter(), at(1, -1, 2))), want)
	same(t, "Shifted by nothing", fine[measure.Arch](t)(measure.Shifted(chapter(), at(0, 0, 0))), chapter())
	same(t, "Shifted nothing", fine[measure.Arch](t)(measure.Shifted(measure.Arch{}, at(2000, -2000, 2000))), measure.Arch{})
	same(t, "Shifted from corner to corner", fine[measure.Arch](t)(measure.Shifted(corner(at(-1000, 1000, -1000)), at(2000, -2000, 2000))), corner(at(1000, -1000, 1000)))
	for _, by := range vectors() {
		for _, a := range []measure.Arch{chapter(), {}, corner(at(-1000, -1000, -1000)), corner(at(1000, 1000, 1000))} {
			got, e := measure.Shifted(a, by)
			refused(t, "Shifted by no vector", got, e, api.ErrRange)
		}
	}
	for _, by := range []api.Cell{at(989, 0, 0), at(-1001, 0, 0), at(0, 996, 0), at(0, -1001, 0), at(0, 0, 996), at(0, 0, -1001), at(2000, 2000, 2000)} {
		got, e := measure.Shifted(chapter(), by)
		refused(t, "Shifted beyond the border", got, e, api.ErrRange)
	}
	for _, by := range []api.Cell{at(988, 995, 995), at(-1000, -1000, -1000)} {
		same(t, "CheckArch of what is shifted to the border", measure.CheckArch(fine[measure.Arch](t)(measure.Shifted(chapter(), by))), api.OK)
	}
}

func TestChanges(t *testing.T) {
	a := chapter()
	mirror := fine[measure.Arch](t)(measure.Mirrored(a, 12))
	same(t, "Changes", fine[[]measure.Change](t)(measure.Changes(a, mirror)), []measure.Change{{Name: "p", By: at(10, 0, 0)}, {Name: "r", By: at(-10, 0, 0)}})
	same(t, "Changes back", fine[[]measure.Change](t)(measure.Changes(mirror, a)), []measure.Change{{Name: "r", By: at(10, 0, 0)}, {Name: "p", By: at(-10, 0, 0)}})
	same(t, "Changes to itself", fine[[]measure.Change](t)(measure.Changes(a, a)), nil)
	for _, none := range []measure.Arch{{}, manyTeeth(32)} {
		same(t, "Changes to others", fine[[]measure.Change](t)(measure.Changes(a, none)), nil)
		same(t, "Changes from others", fine[[]measure.Change](t)(measure.Changes(none, a)), nil)
	}
	ends := chapter()
	ends.Teeth[0].Left, ends.Teeth[1].Right = at(7, 7, 7), at(8, 8, 8)
	same(t, "Changes of ends", fine[[]measure.Change](t)(measure.Changes(a, ends)), nil)
	for i, tip := range []api.Cell{at(7, 5, 3), at(6, 6, 3), at(6, 5, 4)} {
		other := chapter()
		other.Teeth[1].Tip = tip
		by := [3]api.Cell{at(1, 0, 0), at(0, 1, 0), at(0, 0, 1)}[i]
		same(t, "Changes of one tip", fine[[]measure.Change](t)(measure.Changes(a, other)), []measure.Change{{Name: "q", By: by}})
	}
	same(t, "the greatest Changes", fine[[]measure.Change](t)(measure.Changes(corner(at(1000, -1000, 1000)), corner(at(-1000, 1000, -1000)))), []measure.Change{{Name: "a", By: at(-2000, 2000, -2000)}})
	r := dice()
	for range 100 {
		a, b := randomArch(r, r.IntN(33), 1), randomArch(r, r.IntN(33), 1)
		var want []measure.Change
		for _, from := range a.Teeth {
			for _, to := range b.Teeth {
				if from.Name == to.Name && from.Tip != to.Tip {
					want = append(want, measure.Change{Name: from.Name, By: at(to.Tip.X-from.Tip.X, to.Tip.Y-from.Tip.Y, to.Tip.Z-from.Tip.Z)})
				}
			}
		}
		same(t, "Changes", fine[[]measure.Change](t)(measure.Changes(a, b)), want)
	}
}

func TestMoved(t *testing.T) {
	a := chapter()
	want := chapter()
	want.Teeth[1] = tooth("q", at(4, 4, 2), at(8, 4, 2), at(6, 5, 5))
	same(t, "Moved", fine[measure.Arch](t)(measure.Moved(a, []measure.Change{{Name: "q", By: at(0, 0, 2)}})), want)
	want.Teeth[0] = tooth("p", at(-1, 2, -3), at(2, 6, -3), at(0, 3, 2))
	same(t, "Moved", fine[measure.Arch](t)(measure.Moved(a, []measure.Change{{Name: "q", By: at(0, 0, 2)}, {Name: "p", By: at(-1, 2, -3)}})), want)
	same(t, "A afterwards", a, chapter())
	same(t, "Moved by nothing", fine[measure.Arch](t)(measure.Moved(a, nil)), a)
	same(t, "Moved by vectors of 0", fine[measure.Arch](t)(measure.Moved(a, []measure.Change{{Name: "r"}, {Name: "p"}})), a)
	same(t, "Moved without teeth", fine[measure.Arch](t)(measure.Moved(measure.Arch{}, nil)), measure.Arch{})
	same(t, "Moved from corner to corner", fine[measure.Arch](t)(measure.Moved(corner(at(-1000, 1000, -1000)), []measure.Change{{Name: "a", By: at(2000, -2000, 2000)}})), corner(at(1000, -1000, 1000)))
	many, all := manyTeeth(32), []measure.Change(nil)
	for i, tooth := range slices.Backward(many.Teeth) {
		all = append(all, measure.Change{Name: tooth.Name, By: at(i, -i, 1000)})
	}
	moved := fine[measure.Arch](t)(measure.Moved(many, all))
	for i := range 32 {
		to := at(i, -i, 1000)
		same(t, "Moved by the most changes", moved.Teeth[i], tooth(fmt.Sprintf("t%d", i), to, to, to))
	}
}

func TestFaultyMoved(t *testing.T) {
	a := chapter()
	for _, by := range vectors() {
		got, e := measure.Moved(a, []measure.Change{{Name: "p"}, {Name: "x", By: by}})
		refused(t, "Moved by no vector", got, e, api.ErrRange)
	}
	for i, row := range []struct {
		l []measure.Change
		e api.Errno
	}{
		{[]measure.Change{{Name: "x"}}, api.ErrUnknown}, {[]measure.Change{{Name: "p"}, {Name: "P"}}, api.ErrUnknown},
		{[]measure.Change{{Name: ""}}, api.ErrName}, {[]measure.Change{{Name: "p"}, {Name: "q-"}}, api.ErrName}, {[]measure.Change{{Name: strings.Repeat("p", 25)}}, api.ErrName},
		{[]measure.Change{{Name: "q"}, {Name: "p"}, {Name: "q"}}, api.ErrTwice}, {[]measure.Change{{Name: "x"}, {Name: "x"}}, api.ErrTwice},
		{[]measure.Change{{Name: "q", By: at(993, 0, 0)}}, api.ErrRange}, {[]measure.Change{{Name: "p", By: at(0, -1001, 0)}}, api.ErrRange}, {[]measure.Change{{Name: "r", By: at(0, 0, 996)}}, api.ErrRange},
		// A name that is unknown comes before what goes beyond the border.
		{[]measure.Change{{Name: "q", By: at(1000, 0, 0)}, {Name: "x"}}, api.ErrUnknown},
		// The errors of a change: its name, a name twice, its vector; the first change decides.
		{[]measure.Change{{Name: "q"}, {Name: "1", By: at(2001, 0, 0)}}, api.ErrName}, {[]measure.Change{{Name: "q"}, {Name: "q", By: at(2001, 0, 0)}}, api.ErrTwice}, {[]measure.Change{{Name: "q", By: at(2001, 0, 0)}, {Name: ""}}, api.ErrRange}, {[]measure.Change{{Name: "x", By: at(0, 0, -2001)}}, api.ErrRange},
		{make([]measure.Change, 33), api.ErrMany}, {make([]measure.Change, 32), api.ErrName},
	} {
		got, e := measure.Moved(a, row.l)
		refused(t, fmt.Sprintf("Moved by list %d", i), got, e, row.e)
	}
	got, e := measure.Moved(measure.Arch{}, []measure.Change{{Name: "a"}})
	refused(t, "Moved without the tooth", got, e, api.ErrUnknown)
}

// TestMemory changes what functions return and what they have been given: neither is seen elsewhere.
func TestMemory(t *testing.T) {
	a := chapter()
	none := fine[measure.Arch](t)(measure.Moved(a, nil))
	stay := fine[measure.Arch](t)(measure.Shifted(a, at(0, 0, 0)))
	mirror := fine[measure.Arch](t)(measure.Mirrored(a, 12))
	want := fine[measure.Arch](t)(measure.Mirrored(chapter(), 12))
	for i := range a.Teeth {
		none.Teeth[i] = measure.Tooth{}
	}
	same(t, "A after the moved one", a, chapter())
	for i := range a.Teeth {
		a.Teeth[i] = measure.Tooth{}
	}
	same(t, "the shifted arch after A", stay, chapter())
	same(t, "the mirrored arch after A", mirror, want)
	line := []api.Cell{at(3, 0, 0), at(0, 0, 0), at(0, 4, 0)}
	_, _ = measure.Room(line)
	_, _ = measure.Crowding(chapter(), 0, 2, line)
	same(t, "the line", fmt.Sprint(line), fmt.Sprint([]api.Cell{at(3, 0, 0), at(0, 0, 0), at(0, 4, 0)}))
	s := scale()
	_, _ = measure.Class(s, "1")
	same(t, "the scale", fmt.Sprint(s), fmt.Sprint(scale()))
}
