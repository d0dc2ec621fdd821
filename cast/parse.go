package cast

import (
	"slices"
	"strconv"
	"strings"

	"cusp/api"
)

// section is a section of a text: what the last line was, or belonged to.
type section int

const (
	atStart section = iota
	inHead
	inTooth
	inMarks
	inGum
	inBase
)

// reading is a cast of which the first lines of its text have been read.
type reading struct {
	cast Cast
	at   section
}

// kind is a kind of lines.
type kind struct {
	words  int                                   // their number, with the first one
	behind []section                             // the sections in which such a line may come
	read   func(r *reading, words []string) bool // reads the other words, if they have their form
}

// kinds returns the kinds of lines by their first words.
func kinds() map[string]kind {
	return map[string]kind{
		wordCast:  {3, []section{atStart}, (*reading).readCast},
		wordTooth: {5, []section{inHead, inTooth, inMarks}, (*reading).readTooth},
		wordRun:   {5, []section{inTooth, inGum, inBase}, (*reading).readRun},
		wordMark:  {5, []section{inTooth, inMarks}, (*reading).readMark},
		wordGum:   {1, []section{inHead, inTooth, inMarks}, (*reading).readGum},
		wordBase:  {1, []section{inGum}, (*reading).readBase},
	}
}

// integer returns the integer with a text, if it is one.
func integer(s string) (int, bool) {
	n, err := strconv.Atoi(s)
	// Of the texts that strconv reads, only one is that of the integer.
	is := err == nil && strconv.Itoa(n) == s && -api.MaxNumber <= n && n <= api.MaxNumber
	return n, is
}

// vector returns the vector with three words, if they are integers.
func vector(words []string) (api.Cell, bool) {
	x, isX := integer(words[0])
	y, isY := integer(words[1])
	z, isZ := integer(words[2])
	return api.Cell{X: x, Y: y, Z: z}, isX && isY && isZ
}

func (r *reading) readCast(words []string) bool {
	r.at = inHead
	r.cast.Name, r.cast.Upper = words[0], words[1] == wordUpper
	return r.cast.Upper || words[1] == wordLower
}

func (r *reading) readTooth(words []string) bool {
	axis, is := vector(words[1:])
	r.at = inTooth
	r.cast.Teeth = append(r.cast.Teeth, Tooth{Name: words[0], Axis: axis})
	return is
}

// tooth returns the tooth that is read.
func (r *reading) tooth() *Tooth { return &r.cast.Teeth[len(r.cast.Teeth)-1] }

// cells returns the set to which a run belongs.
func (r *reading) cells() *[]api.Cell {
	switch r.at {
	case inGum:
		return &r.cast.Gum
	case inBase:
		return &r.cast.Base
	}
	return &r.tooth().Cells
}

func (r *reading) readRun(words []string) bool {
	from, isCell := vector(words)
	n, isNumber := integer(words[3])
	if !isCell || !isNumber || n < 1 || n > api.MaxCells {
		return false
	}
	l := r.cells()
	// More cells than a set may have are the same error, however many there are.
	for i := 0; i < n && len(*l) <= api.MaxCells; i++ {
		*l = append(*l, along(from, axisZ, i))
	}
	return true
}

func (r *reading) readMark(words []string) bool {
	at, is := vector(words[1:])
	r.at = inMarks
	r.tooth().Marks = append(r.tooth().Marks, Mark{words[0], at})
	return is
}

func (r *reading) readGum([]string) bool {
	r.at = inGum
	return true
}

func (r *reading) readBase([]string) bool {
	r.at = inBase
	return true
}

// readLine reads the next line, if it has the form of a line there.
func (r *reading) readLine(line string, known map[string]kind) bool {
	words := strings.Split(line, " ")
	k, is := known[words[0]]
	return is && len(words) == k.words && !slices.Contains(words, "") && slices.Contains(k.behind, r.at) && k.read(r, words[1:])
}

// Parse returns the cast with a text, or the line of the first error.
func Parse(s string) (Cast, int, api.Errno) {
	if len(s) > api.MaxText {
		return Cast{}, 0, api.ErrLong
	}
	if !strings.HasSuffix(s, "\n") {
		return Cast{}, 0, api.ErrTorn
	}
	var r reading
	known := kinds()
	lines := strings.Split(strings.TrimSuffix(s, "\n"), "\n")
	for i, line := range lines {
		if !r.readLine(line, known) {
			return Cast{}, i + 1, api.ErrSyntax
		}
	}
	if r.at != inBase {
		return Cast{}, len(lines) + 1, api.ErrSyntax
	}
	if e := CheckCast(r.cast); e != api.OK {
		return Cast{}, 0, e
	}
	return r.cast, 0, api.OK
}
