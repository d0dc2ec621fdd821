package bite_test

import (
	"slices"
	"strings"
	"testing"

	"cusp/api"
	"cusp/bite"
)

const chapterText = "0,0,0 0,0,1 0,0,2 0,0,3 0,0,4"

// parsed returns what ParsePath returns, but for the word, which has to be 0 beside a path.
func parsed(t *testing.T, s string) ([]api.Cell, api.Errno) {
	t.Helper()
	path, word, e := bite.ParsePath(s)
	if e == api.OK {
		same(t, "the word beside a path", word, 0)
	}
	return path, e
}

// unread reports another error of a text, or another word, and a path beside it.
func unread(t *testing.T, s string, wanted api.Errno, wantedWord int) {
	t.Helper()
	path, word, e := bite.ParsePath(s)
	refused(t, "ParsePath of "+short(s), path, e, wanted)
	same(t, "the word of "+short(s), word, wantedWord)
}

func TestPrintPath(t *testing.T) {
	same(t, "PrintPath", fine[string](t)(bite.PrintPath(chapter().Path)), chapterText)
	same(t, "PrintPath of one position", fine[string](t)(bite.PrintPath([]api.Cell{at(-1000, 20, 1000)})), "-1000,20,1000")
	same(t, "PrintPath", fine[string](t)(bite.PrintPath([]api.Cell{at(-1, 9, -10), at(0, 10, -9)})), "-1,9,-10 0,10,-9")
	for _, x := range faultyBites() {
		if e := bite.CheckPath(x.b.Path); e != api.OK {
			s, got := bite.PrintPath(x.b.Path)
			refused(t, "PrintPath of "+x.what, s, got, e)
		}
	}
	for _, x := range []struct {
		path []api.Cell
		e    api.Errno
	}{{nil, api.ErrEmpty}, {swing(257), api.ErrMany}, {[]api.Cell{at(0, 0, 0), at(0, 0, 0)}, api.ErrTwice}, {[]api.Cell{at(0, 0, 0), at(0, -2, 0)}, api.ErrOrder}, {[]api.Cell{at(0, 0, 1001)}, api.ErrRange}} {
		s, e := bite.PrintPath(x.path)
		refused(t, "PrintPath of no path", s, e, x.e)
	}
}

// longPath returns a path whose text has so many bytes: words with 15, 16 or 17 bytes, and blanks.
func longPath(t *testing.T, bytes int) []api.Cell {
	t.Helper()
	// Pairs of words with 17 and 16 bytes, each one with a blank, have 35 bytes; those with 16 and 15 bytes have 33.
	for pairs := range 128 {
		for others := range 128 - pairs {
			if 35*pairs+33*others-1 != bytes {
				continue
			}
			var path []api.Cell
			for range pairs {
				path = append(path, at(-1000, -1000, -1000), at(-1000, -1000, -999))
			}
			for range others {
				path = append(path, at(-1000, -999, -1000), at(-1000, -999, -999))
			}
			return path
		}
	}
	t.Fatalf("no path whose text has %d bytes", bytes)
	return nil
}

func TestLongTexts(t *testing.T) {
	for _, bytes := range []int{4094, 4095, 4096} {
		path := longPath(t, bytes)
		text := fine[string](t)(bite.PrintPath(path))
		same(t, "the bytes of a long text", len(text), bytes)
		same(t, "ParsePath of a long text", fine[[]api.Cell](t)(parsed(t, text)), path)
	}
	for _, bytes := range []int{4097, 4098, 4099} {
		path := longPath(t, bytes)
		same(t, "the error of a long path", bite.CheckPath(path), api.OK)
		s, e := bite.PrintPath(path)
		refused(t, "PrintPath of a long path", s, e, api.ErrLong)
	}
	unread(t, strings.Repeat("0", 4097), api.ErrLong, 0)
	unread(t, strings.Repeat("0,0,0 0,0,1 ", 400), api.ErrLong, 0)
	unread(t, strings.Repeat(" ", 4097), api.ErrLong, 0)
	unread(t, strings.Repeat(" ", 4096), api.ErrSyntax, 1)
	unread(t, "0,0,0"+strings.Repeat(" ", 4091), api.ErrSyntax, 2)
	unread(t, "0,0,0"+strings.Repeat(" ", 4092), api.ErrLong, 0)
}

func TestParsePath(t *testing.T) {
	same(t, "ParsePath", fine[[]api.Cell](t)(parsed(t, chapterText)), chapter().Path)
	same(t, "ParsePath", fine[[]api.Cell](t)(parsed(t, "-1000,20,1000")), []api.Cell{at(-1000, 20, 1000)})
	same(t, "ParsePath", fine[[]api.Cell](t)(parsed(t, "-1,9,-10 0,10,-9")), []api.Cell{at(-1, 9, -10), at(0, 10, -9)})
	unread(t, "", api.ErrSyntax, 1)
	unread(t, " ", api.ErrSyntax, 1)
	unread(t, chapterText+" ", api.ErrSyntax, 6)
	unread(t, " "+chapterText, api.ErrSyntax, 1)
	unread(t, strings.ReplaceAll(chapterText, " ", "  "), api.ErrSyntax, 2)
	unread(t, strings.ReplaceAll(chapterText, " ", "\n"), api.ErrSyntax, 1)
	unread(t, strings.ReplaceAll(chapterText, " ", "\t"), api.ErrSyntax, 1)
	unread(t, strings.ReplaceAll(chapterText, ",", ", "), api.ErrSyntax, 1)
	unread(t, chapterText+"\n", api.ErrSyntax, 5)
}

// TestFaultyWords puts faulty words in the place of each good one.
func TestFaultyWords(t *testing.T) {
	words := strings.Split(chapterText, " ")
	for i := range words {
		for _, word := range []string{"", "0", ",", ",,", ",,,", "0,0", "0,0,", ",0,0", "0,,0", "0,0,0,", ",0,0,0", "0,0,0,0", "0,0;0", "0.0.0", "(0,0,0)", "x,y,z", "0,0,0\n", "\x000,0,0", "0\u00a0,0,0"} {
			changed := slices.Clone(words)
			changed[i] = word
			unread(t, strings.Join(changed, " "), api.ErrSyntax, i+1)
			// The first faulty word decides; it comes before the errors of a path.
			unread(t, "5000,0,0 "+strings.Join(changed, " ")+" x", api.ErrSyntax, i+2)
		}
	}
}

func TestIntegersOfTexts(t *testing.T) {
	with := func(place int, number string) string {
		parts := []string{"5", "6", "7"}
		parts[place] = number
		return strings.Join(parts, ",")
	}
	for place := range 3 {
		for _, number := range []string{"", "00", "-0", "+1", "01", "-01", "1.0", "1e3", "0x1", "1_0", "-", "--1", "1-", "1000000000", "-1000000000", "0999999999", "99999999999999999999", "-9223372036854775809", "1\x00", "\xff", "١", "a", "1\t", "1\r"} {
			unread(t, with(place, number), api.ErrSyntax, 1)
			unread(t, chapterText+" "+with(place, number), api.ErrSyntax, 6)
		}
		for _, number := range []string{"999999999", "-999999999", "1001", "-1001"} {
			unread(t, with(place, number), api.ErrRange, 0)
		}
		for number, n := range map[string]int{"1000": 1000, "-1000": -1000, "0": 0, "-7": -7, "10": 10} {
			numbers := [3]int{5, 6, 7}
			numbers[place] = n
			same(t, "ParsePath of "+number, fine[[]api.Cell](t)(parsed(t, with(place, number))), []api.Cell{at(numbers[0], numbers[1], numbers[2])})
		}
	}
}

// TestErrorsOfReadPaths has texts that can be read, of paths with errors.
func TestErrorsOfReadPaths(t *testing.T) {
	many := func(n int) string { return strings.TrimSuffix(strings.Repeat("0,0,0 0,0,1 ", n/2), " ") }
	same(t, "ParsePath of 256 positions", fine[[]api.Cell](t)(parsed(t, many(256))), swing(256))
	unread(t, many(258), api.ErrMany, 0)
	unread(t, many(256)+" 0,0,0", api.ErrMany, 0)
	unread(t, many(256)+" 0,0,0 0", api.ErrSyntax, 258)
	unread(t, strings.TrimSuffix(strings.Repeat("5000,0,0 ", 257), " "), api.ErrMany, 0)
	unread(t, "0,0,0 0,0,0", api.ErrTwice, 0)
	unread(t, "0,0,0 0,0,2", api.ErrOrder, 0)
	unread(t, "0,0,0 0,0,0 0,0,2", api.ErrTwice, 0)
	unread(t, "0,0,0 0,0,2 0,0,2", api.ErrOrder, 0)
	unread(t, "0,0,1001 0,0,1001", api.ErrRange, 0)
}
