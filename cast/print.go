package cast

import (
	"strconv"
	"strings"

	"cusp/api"
)

// The words that lines begin with, and those for the jaw.
const (
	wordCast  = "cast"
	wordTooth = "tooth"
	wordRun   = "run"
	wordMark  = "mark"
	wordGum   = "gum"
	wordBase  = "base"
	wordUpper = "upper"
	wordLower = "lower"
)

// line returns a line of words.
func line(words ...string) string { return strings.Join(words, " ") + "\n" }

// numbers returns the words for the numbers of a vector.
func numbers(v api.Cell) string {
	return strconv.Itoa(v.X) + " " + strconv.Itoa(v.Y) + " " + strconv.Itoa(v.Z)
}

// runs returns the lines for the runs of a set.
func runs(l []api.Cell) string {
	var out strings.Builder
	for len(l) > 0 {
		n := 1
		for n < len(l) && l[n] == along(l[0], axisZ, n) {
			n++
		}
		out.WriteString(line(wordRun, numbers(l[0]), strconv.Itoa(n)))
		l = l[n:]
	}
	return out.String()
}

// text returns the text of a tooth.
func (t Tooth) text() string {
	out := line(wordTooth, t.Name, numbers(t.Axis)) + runs(t.Cells)
	for _, m := range t.Marks {
		out += line(wordMark, m.Name, numbers(m.At))
	}
	return out
}

// text returns the text of a cast.
func (c Cast) text() string {
	jaw := wordLower
	if c.Upper {
		jaw = wordUpper
	}
	out := line(wordCast, c.Name, jaw)
	for _, t := range c.Teeth {
		out += t.text()
	}
	return out + line(wordGum) + runs(c.Gum) + line(wordBase) + runs(c.Base)
}

// Print returns the text of a cast.
func Print(c Cast) (string, api.Errno) {
	if e := CheckCast(c); e != api.OK {
		return "", e
	}
	text := c.text()
	if len(text) > api.MaxText {
		return "", api.ErrLong
	}
	return text, api.OK
}
