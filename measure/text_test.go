package measure_test

import (
	"fmt"
	"slices"
	"strings"
	"testing"

	"cusp/api"
	"cusp/measure"
)

// chapterText returns the text of A.
func chapterText() string {
	return "p 0 0 0 3 4 0 1 1 5\nq 4 4 0 8 4 0 6 5 3\nr 9 4 1 12 0 1 11 1 5\n"
}

// parsed returns what Parse returns, but for the line, which has to be 0 beside an arch.
func parsed(t *testing.T, s string) (measure.Arch, api.Errno) {
	t.Helper()
	a, line, e := measure.Parse(s)
	if e == api.OK {
		same(t, "the line beside an arch", line, 0)
	}
	return a, e
}

// unread reports another error of a text, or another line, and an arch beside it.
func unread(t *testing.T, s string, wanted api.Errno, wantedLine int) {
	t.Helper()
	a, line, e := measure.Parse(s)
	refused(t, "Parse of "+short(s), a, e, wanted)
	same(t, "the line of "+short(s), line, wantedLine)
}

func TestPrint(t *testing.T) {
	same(t, "Print", fine[string](t)(measure.Print(chapter())), chapterText())
	same(t, "Print of nothing", fine[string](t)(measure.Print(measure.Arch{})), "")
	a := arch(tooth("Z_9", at(-1000, 20, -3), at(1000, -1, 0), at(10, 100, -999)))
	same(t, "Print", fine[string](t)(measure.Print(a)), "Z_9 -1000 20 -3 1000 -1 0 10 100 -999\n")
	// The longest text of an arch is within the limit.
	var longest measure.Arch
	low := at(-1000, -1000, -1000)
	for i := range 32 {
		longest.Teeth = append(longest.Teeth, tooth(fmt.Sprintf("tooth_with_a_long_name%02d", i), low, low, low))
	}
	text := fine[string](t)(measure.Print(longest))
	same(t, "the bytes of the longest text", len(text), 32*79)
	same(t, "Parse of the longest text", fine[measure.Arch](t)(parsed(t, text)), longest)
}

func TestParse(t *testing.T) {
	same(t, "Parse", fine[measure.Arch](t)(parsed(t, chapterText())), chapter())
	same(t, "Parse of nothing", fine[measure.Arch](t)(parsed(t, "")), measure.Arch{})
	want := arch(tooth("Z_9", at(-1000, 20, -3), at(1000, -1, 0), at(10, 100, -999)))
	same(t, "Parse", fine[measure.Arch](t)(parsed(t, "Z_9 -1000 20 -3 1000 -1 0 10 100 -999\n")), want)
}

func TestFaultyTexts(t *testing.T) {
	unread(t, "p", api.ErrTorn, 0)
	unread(t, strings.TrimSuffix(chapterText(), "\n"), api.ErrTorn, 0)
	unread(t, "x\nx", api.ErrTorn, 0)
	unread(t, chapterText()+"\r", api.ErrTorn, 0)
	unread(t, "\n", api.ErrSyntax, 1)
	unread(t, "\n\n", api.ErrSyntax, 1)
	unread(t, chapterText()+"\n", api.ErrSyntax, 4)
	unread(t, chapterText()+"p\n\n", api.ErrSyntax, 4)
	unread(t, strings.ReplaceAll(chapterText(), "\n", "\r\n"), api.ErrSyntax, 1)
	unread(t, strings.ReplaceAll(chapterText(), "\n", " "), api.ErrTorn, 0)
	unread(t, strings.ReplaceAll(chapterText(), "\n", "\n\n"), api.ErrSyntax, 2)
	unread(t, strings.Repeat("x", 4097), api.ErrLong, 0)
	unread(t, strings.Repeat("\n", 4097), api.ErrLong, 0)
	unread(t, strings.Repeat("x", 4096), api.ErrTorn, 0)
	unread(t, strings.Repeat("\n", 4096), api.ErrSyntax, 1)
	unread(t, strings.Repeat(" ", 4095)+"\n", api.ErrSyntax, 1)
	// A name may be any word: the longest line that can be read has no name.
	rest := " 0 0 0 3 4 0 1 1 5\n"
	unread(t, strings.Repeat("p", 4096-len(rest))+rest, api.ErrName, 0)
	unread(t, strings.Repeat("p", 4097-len(rest))+rest, api.ErrLong, 0)
}

// TestFaultyLines puts faulty lines in the place of each good one.
func TestFaultyLines(t *testing.T) {
	lines := strings.SplitAfter(chapterText(), "\n")
	for i := range 3 {
		for _, line := range []string{
			"", " ", "p", "p 0 0 0", "p 0 0 0 3 4 0 1 1", "p 0 0 0 3 4 0 1 1 5 6", "p 0 0 0 3 4 0 1 1 5 ", " p 0 0 0 3 4 0 1 1 5", " 0 0 0 3 4 0 1 1 5", "0 0 0 3 4 0 1 1 5",
			"p  0 0 3 4 0 1 1 5", "p 0 0 0 3  0 1 1 5", "p 0 0 0 3 4 0 1 1 ", "p  0 0 0 3 4 0 1 1 5", "p\t0 0 0 3 4 0 1 1 5", "p 0\t0 0 3 4 0 1 1 5", "a p 0 0 0 3 4 0 1 1 5", "p 0 0 0 3 4 0 1 1 5 r",
			strings.Repeat(" ", 9), strings.Repeat("1 ", 10),
		} {
			changed := slices.Clone(lines)
			changed[i] = line + "\n"
			unread(t, strings.Join(changed, ""), api.ErrSyntax, i+1)
			// The first faulty line decides; it comes before the errors of an arch.
			unread(t, "- 9999 0 0 0 0 0 0 0 0\n"+strings.Join(changed, "")+"x\n", api.ErrSyntax, i+2)
		}
	}
}

func TestIntegersOfTexts(t *testing.T) {
	good := strings.Fields("p 0 0 0 3 4 0 1 1 5")
	with := func(place int, word string) string {
		words := slices.Clone(good)
		words[place] = word
		return strings.Join(words, " ") + "\n"
	}
	for place := 1; place <= 9; place++ {
		for _, word := range []string{"00", "-0", "+1", "01", "-01", "1.0", "1e3", "0x1", "1_0", "-", "--1", "1-", "1000000000", "-1000000000", "0999999999", "99999999999999999999", "-9223372036854775809", "1\x00", "\xff", "١", "a", "1\t", "1\r"} {
			unread(t, with(place, word), api.ErrSyntax, 1)
			unread(t, chapterText()+with(place, word), api.ErrSyntax, 4)
		}
		for _, word := range []string{"999999999", "-999999999", "1001", "-1001"} {
			unread(t, with(place, word), api.ErrRange, 0)
		}
		for word, n := range map[string]int{"1000": 1000, "-1000": -1000, "0": 0, "-7": -7, "10": 10} {
			numbers := [9]int{0, 0, 0, 3, 4, 0, 1, 1, 5}
			numbers[place-1] = n
			want := arch(tooth("p", at(numbers[0], numbers[1], numbers[2]), at(numbers[3], numbers[4], numbers[5]), at(numbers[6], numbers[7], numbers[8])))
			same(t, "Parse of "+word, fine[measure.Arch](t)(parsed(t, with(place, word))), want)
		}
	}
}

// TestErrorsOfReadArches has texts that can be read, of arches with errors.
func TestErrorsOfReadArches(t *testing.T) {
	many := func(n int) string {
		text := ""
		for i := range n {
			text += fmt.Sprintf("t%d 0 0 0 0 0 0 0 0 0\n", i)
		}
		return text
	}
	same(t, "Parse of 32 teeth", fine[measure.Arch](t)(parsed(t, many(32))), manyTeeth(32))
	unread(t, many(33), api.ErrMany, 0)
	unread(t, many(33)+"x\n", api.ErrSyntax, 34)
	unread(t, strings.Repeat("- 0 0 0 0 0 0 0 0 0\n", 33), api.ErrMany, 0)
	unread(t, "p 0 0 0 0 0 0 0 0 0\np 0 0 0 0 0 0 0 0 0\n", api.ErrTwice, 0)
	unread(t, "p 0 0 0 0 0 0 0 0 0\np 9999 0 0 0 0 0 0 0 0\n", api.ErrTwice, 0)
	unread(t, "p 0 9999 0 0 0 0 0 0 0\np 0 0 0 0 0 0 0 0 0\n", api.ErrRange, 0)
	for _, name := range []string{"1", "-", "p-", "_", "0", "ä", "p\t", "\xff\x00", "\r", strings.Repeat("p", 25)} {
		unread(t, name+" 0 0 0 3 4 0 1 1 5\n", api.ErrName, 0)
	}
	same(t, "Parse of a long name", fine[measure.Arch](t)(parsed(t, strings.Repeat("p", 24)+" 0 0 0 0 0 0 0 0 0\n")).Teeth[0].Name, strings.Repeat("p", 24))
}
