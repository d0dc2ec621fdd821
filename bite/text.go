package bite

import (
	"strconv"
	"strings"

	"cusp/api"
)

// wordOf returns the word of a position.
func wordOf(c api.Cell) string {
	return strconv.Itoa(c.X) + "," + strconv.Itoa(c.Y) + "," + strconv.Itoa(c.Z)
}

// PrintPath returns the text of a path.
func PrintPath(l []api.Cell) (string, api.Errno) {
	if e := CheckPath(l); e != api.OK {
		return "", e
	}
	words := make([]string, len(l))
	for i, c := range l {
		words[i] = wordOf(c)
	}
	text := strings.Join(words, " ")
	if len(text) > api.MaxText {
		return "", api.ErrLong
	}
	return text, api.OK
}

// readInteger returns the integer with a text, if it has the form of one.
func readInteger(s string) (int, bool) {
	n, err := strconv.Atoi(s)
	// Of the texts that strconv reads, only one is that of the integer.
	if err != nil || strconv.Itoa(n) != s || within(n, -api.MaxNumber, api.MaxNumber) != api.OK {
		return 0, false
	}
	return n, true
}

// readWord returns the position with a word, if it has the form of one.
func readWord(word string) (api.Cell, bool) {
	parts := strings.Split(word, ",")
	if len(parts) != 3 {
		return api.Cell{}, false
	}
	x, isX := readInteger(parts[0])
	y, isY := readInteger(parts[1])
	z, isZ := readInteger(parts[2])
	return api.Cell{X: x, Y: y, Z: z}, isX && isY && isZ
}

// ParsePath returns the path with a text, or the number of the first word with an error.
func ParsePath(s string) ([]api.Cell, int, api.Errno) {
	if len(s) > api.MaxText {
		return nil, 0, api.ErrLong
	}
	var path []api.Cell
	for i, word := range strings.Split(s, " ") {
		c, is := readWord(word)
		if !is {
			return nil, i + 1, api.ErrSyntax
		}
		path = append(path, c)
	}
	if e := CheckPath(path); e != api.OK {
		return nil, 0, e
	}
	return path, 0, api.OK
}
