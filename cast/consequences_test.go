package cast_test

import (
	"math/rand/v2"
	"slices"
	"testing"

	"cusp/api"
	"cusp/cast"
	"cusp/grid"
)

func TestMovedBack(t *testing.T) {
	r := dice()
	for range 50 {
		c := randomCast(r)
		by, about := at(r.IntN(900), -r.IntN(900), r.IntN(900)), at(r.IntN(200), r.IntN(200), -r.IntN(200))
		there := fine[cast.Cast](t)(cast.Shifted(c, by))
		same(t, "Shifted there and back", fine[cast.Cast](t)(cast.Shifted(there, at(-by.X, -by.Y, -by.Z))), c)
		for n := range 24 {
			for back := range 24 {
				if fine[int](t)(grid.Twice(n, back)) == 0 {
					there = fine[cast.Cast](t)(cast.Turned(c, n, about))
					same(t, "Turned there and back", fine[cast.Cast](t)(cast.Turned(there, back, about)), c)
				}
			}
		}
		for axis := range 3 {
			there = fine[cast.Cast](t)(cast.Mirrored(c, axis, about.Z))
			same(t, "Mirrored twice", fine[cast.Cast](t)(cast.Mirrored(there, axis, about.Z)), c)
		}
		for _, tooth := range c.Teeth {
			there = fine[cast.Cast](t)(cast.Renamed(c, tooth.Name, "other"))
			same(t, "Renamed twice", fine[cast.Cast](t)(cast.Renamed(there, "other", tooth.Name)), c)
		}
	}
}

// looks returns scans of cells from some sides, in any order.
func looks(t *testing.T, r *rand.Rand, l []api.Cell, b grid.Box) []cast.Scan {
	var scans []cast.Scan
	for _, side := range r.Perm(6)[:1+r.IntN(6)] {
		scans = append(scans, fine[cast.Scan](t)(cast.Look(l, side, b)))
	}
	return scans
}

func TestScansOfCells(t *testing.T) {
	r := dice()
	for range 100 {
		l, b := scattered(r, 3, 1+r.IntN(6)), randomBox(r)
		scans := looks(t, r, l, b)
		same(t, "Conflicts", fine[[]api.Cell](t)(cast.Conflicts(scans)), nil)
		all := block(t, b.Low, b.High)
		open := all
		for n := range scans {
			known := fine[cast.Known](t)(cast.Join(scans[:n+1]))
			same(t, "solid cells that are none", fine[[]api.Cell](t)(grid.Less(known.Solid, l)), nil)
			same(t, "empty cells that are some", fine[[]api.Cell](t)(grid.Cut(known.Empty, l)), nil)
			same(t, "cells that were not open before", fine[[]api.Cell](t)(grid.Less(known.Open, open)), nil)
			same(t, "what is known and what is open", ascending(slices.Concat(known.Solid, known.Empty, known.Open)), all)
			unseen := fine[[]api.Cell](t)(cast.Unseen(scans[:n+1]))
			same(t, "unseen cells that are not open", fine[[]api.Cell](t)(grid.Less(unseen, known.Open)), nil)
			n, e := cast.Agrees(l, scans[n])
			refused(t, "Agrees", n, e, api.ErrNone)
			open = known.Open
		}
		// What is solid looks the same as the cells, as long as all that looked is known.
		known := fine[cast.Known](t)(cast.Join(scans))
		for _, s := range scans {
			n, e := cast.Agrees(known.Solid, s)
			refused(t, "Agrees with what is solid", n, e, api.ErrNone)
		}
	}
}

func TestClosedSurfaces(t *testing.T) {
	r := dice()
	for range 100 {
		l := scattered(r, 2+r.IntN(3), 1+r.IntN(6))
		faces := fine[[]cast.Face](t)(cast.Surface(l))
		same(t, "Leaks", fine[[]cast.Edge](t)(cast.Leaks(faces)), nil)
		same(t, "Fill", fine[[]api.Cell](t)(cast.Fill(faces)), l)
		same(t, "the surface", len(faces), fine[grid.Count](t)(grid.Counts(l)).Surface)
		if len(faces) > 0 {
			i := r.IntN(len(faces))
			got, e := cast.Fill(slices.Delete(faces, i, i+1))
			refused(t, "Fill without a face", got, e, api.ErrHole)
		}
	}
}

func TestReadAsPrinted(t *testing.T) {
	r := dice()
	for range 300 {
		c := randomCast(r)
		text := fine[string](t)(cast.Print(c))
		same(t, "Parse of what is printed", fine[cast.Cast](t)(parsed(t, text)), c)
		// With a byte changed, a text can be read as a cast that is printed and read again, or it cannot be read.
		bytes := []byte(text)
		bytes[r.IntN(len(bytes))] = " \n01-9agrx"[r.IntN(10)]
		other, line, e := cast.Parse(string(bytes))
		if e != api.OK {
			refused(t, "Parse", other, e, e)
			same(t, "a line beside another error", line > 0, e == api.ErrSyntax)
			continue
		}
		again := fine[string](t)(cast.Print(other))
		same(t, "Parse of what is printed", fine[cast.Cast](t)(parsed(t, again)), other)
	}
}

// TestArguments gives lists to all functions that take some, which they must not change.
func TestArguments(t *testing.T) {
	c := chapter()
	cells := fine[[]api.Cell](t)(cast.All(c))
	scan := fine[cast.Scan](t)(cast.Look(cells, 5, chapterBox()))
	faces := cellFaces()
	_, _, _ = cast.At(c, at(0, 0, 0))
	_, _ = cast.Touching(c)
	_, _ = cast.Print(c)
	_, _ = cast.Find(c, "a")
	_, _ = cast.Seen(scan)
	_, _ = cast.Through(scan)
	_, _ = cast.Agrees(cells, scan)
	_, _ = cast.Join([]cast.Scan{scan, scan})
	_, _ = cast.Surface(cells)
	_, _ = cast.Leaks(faces)
	_, _ = cast.Fill(faces)
	same(t, "the cast", c, chapter())
	same(t, "the cells", cells, chapterCells())
	same(t, "the scan", scan, cast.Scan{Side: 5, Box: chapterBox(), Empty: []int{0, 1}})
	same(t, "the faces", faces, cellFaces())
	cells[0] = at(9, 9, 9)
	same(t, "the cast after its cells", c, chapter())
	known := fine[cast.Known](t)(cast.Join([]cast.Scan{scan}))
	known.Open[0], known.Empty[0], known.Solid[0] = at(9, 9, 9), at(9, 9, 9), at(9, 9, 9)
	same(t, "the next result", fine[cast.Known](t)(cast.Join([]cast.Scan{scan})).Solid, []api.Cell{at(0, 0, 1), at(1, 0, 0)})
}
