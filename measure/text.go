package measure

import (
	"strconv"
	"strings"

	"cusp/api"
)

// wordsOfTooth is the number of the words of a line: a name, and the coordinates of the landmarks.
const wordsOfTooth = 1 + 3*landmarks

// text returns the line of a tooth.
func (t Tooth) text() string {
	words := []string{t.Name}
	for _, c := range t.marks() {
		words = append(words, strconv.Itoa(c.X), strconv.Itoa(c.Y), strconv.Itoa(c.Z))
	}
	return strings.Join(words, " ") + "\n"
}

// Print returns the text of an arch.
func Print(a Arch) (string, api.Errno) {
	if e := CheckArch(a); e != api.OK {
		return "", e
	}
	text := ""
	for _, t := range a.Teeth {
		text += t.text()
	}
	if len(text) > api.MaxText {
		return "", api.ErrLong
	}
	return text, api.OK
}

// reading is the words of a line that have not been read yet, and whether one that has been read is no integer.
type reading struct {
	words    []string
	isFaulty bool
}

// integer reads the next word.
func (r *reading) integer() int {
	word := r.words[0]
	r.words = r.words[1:]
	n, err := strconv.Atoi(word)
	// Of the texts that strconv reads, only one is that of the integer.
	if err != nil || strconv.Itoa(n) != word || n < -api.MaxNumber || n > api.MaxNumber {
		r.isFaulty = true
	}
	return n
}

// readCell returns the cell with the next three integers.
func readCell(next func() int) api.Cell {
	x := next()
	y := next()
	z := next()
	return api.Cell{X: x, Y: y, Z: z}
}

// readTooth returns the tooth of a line, if it has the form of one.
func readTooth(line string) (Tooth, bool) {
	words := strings.Split(line, " ")
	if len(words) != wordsOfTooth || words[0] == "" {
		return Tooth{}, false
	}
	r := reading{words: words[1:]}
	var marks [landmarks]api.Cell
	for i := range marks {
		marks[i] = readCell(r.integer)
	}
	return toothOf(words[0], marks), !r.isFaulty
}

// Parse returns the arch with a text, or the line with an error.
func Parse(s string) (Arch, int, api.Errno) {
	if len(s) > api.MaxText {
		return Arch{}, 0, api.ErrLong
	}
	if s == "" {
		return Arch{}, 0, api.OK
	}
	body, isWhole := strings.CutSuffix(s, "\n")
	if !isWhole {
		return Arch{}, 0, api.ErrTorn
	}
	var a Arch
	for i, line := range strings.Split(body, "\n") {
		t, is := readTooth(line)
		if !is {
			return Arch{}, i + 1, api.ErrSyntax
		}
		a.Teeth = append(a.Teeth, t)
	}
	if e := CheckArch(a); e != api.OK {
		return Arch{}, 0, e
	}
	return a, 0, api.OK
}
