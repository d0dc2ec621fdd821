package cast_test

import (
	"fmt"
	"regexp"
	"slices"
	"strings"
	"testing"

	"cusp/api"
	"cusp/cast"
)

// chapterText returns the text of C.
func chapterText() string {
	return "cast c lower\ntooth a 0 0 1\nrun 0 0 0 2\nmark tip 0 0 1\ntooth b 0 0 1\nrun 1 0 0 1\ngum\nrun 0 0 -1 1\nrun 1 0 -1 1\nbase\nrun 0 0 -2 1\n"
}

// parsed returns what Parse returns, but for the line, which has to be 0 beside a cast.
func parsed(t *testing.T, s string) (cast.Cast, api.Errno) {
	t.Helper()
	c, line, e := cast.Parse(s)
	if e == api.OK {
		same(t, "the line beside a cast", line, 0)
	}
	return c, e
}

// unread reports another error of a text, or another line, and a cast beside it.
func unread(t *testing.T, s string, wanted api.Errno, wantedLine int) {
	t.Helper()
	c, line, e := cast.Parse(s)
	refused(t, "Parse of "+short(s), c, e, wanted)
	same(t, "the line of "+short(s), line, wantedLine)
}

func TestPrint(t *testing.T) {
	same(t, "Print", fine[string](t)(cast.Print(chapter())), chapterText())
	same(t, "Print of nothing", fine[string](t)(cast.Print(cast.Cast{Name: "c_1", Upper: true})), "cast c_1 upper\ngum\nbase\n")
	l := []api.Cell{at(-1000, 5, 999), at(-1000, 5, 1000), at(0, 0, 0), at(0, 0, 1), at(0, 0, 2), at(0, 0, 4), at(0, 1, 5), at(1, 1, 6), at(2, 0, 0), at(2, 1, 1)}
	want := "run -1000 5 999 2\nrun 0 0 0 3\nrun 0 0 4 1\nrun 0 1 5 1\nrun 1 1 6 1\nrun 2 0 0 1\nrun 2 1 1 1\n"
	same(t, "Print of runs", fine[string](t)(cast.Print(cast.Cast{Name: "c", Gum: l})), "cast c lower\ngum\n"+want+"base\n")
	same(t, "Print of runs", fine[string](t)(cast.Print(cast.Cast{Name: "c", Base: l})), "cast c lower\ngum\nbase\n"+want)
	tooth := cast.Tooth{Name: "T", Cells: l, Axis: at(-1000, 0, 7), Marks: []cast.Mark{{Name: "z", At: at(0, 0, 4)}, {Name: "a", At: at(-1000, 5, 1000)}}}
	same(t, "Print of a tooth", fine[string](t)(cast.Print(cast.Cast{Name: "c", Teeth: []cast.Tooth{tooth}})), "cast c lower\ntooth T -1000 0 7\n"+want+"mark z 0 0 4\nmark a -1000 5 1000\ngum\nbase\n")
}

// long returns a cast with a text of so many bytes, from 4050 on.
func long(t *testing.T, bytes int) cast.Cast {
	// Each of the cells is a run of 12 bytes.
	c := cast.Cast{Name: "c"}
	for x := range 10 {
		for y := range 10 {
			for z := range 4 {
				c.Gum = append(c.Gum, at(x, y, 2*z))
			}
		}
	}
	rest := bytes - len("cast c lower\ngum\nbase\n")
	c.Gum = c.Gum[:rest/12]
	c.Name += strings.Repeat("c", rest%12)
	return c
}

func TestLongTexts(t *testing.T) {
	most := long(t, 4096)
	text := fine[string](t)(cast.Print(most))
	same(t, "the bytes of the longest text", len(text), 4096)
	same(t, "Parse of the longest text", fine[cast.Cast](t)(parsed(t, text)), most)
	for _, n := range []int{4097, 4200} {
		got, e := cast.Print(long(t, n))
		refused(t, "Print", got, e, api.ErrLong)
	}
	most.Name += "c"
	longer := strings.Replace(text, "cast c", "cast cc", 1)
	unread(t, longer, api.ErrLong, 0)
	unread(t, longer[:4096], api.ErrTorn, 0)
	unread(t, strings.Repeat("\n", 4097), api.ErrLong, 0)
	unread(t, strings.Repeat("\n", 4096), api.ErrSyntax, 1)
	unread(t, strings.Repeat("c", 4097), api.ErrLong, 0)
	got, e := cast.Print(cast.Cast{Name: "-", Gum: most.Gum})
	refused(t, "Print of no cast", got, e, api.ErrName)
}

func TestParse(t *testing.T) {
	same(t, "Parse", fine[cast.Cast](t)(parsed(t, chapterText())), chapter())
	same(t, "Parse of nothing", fine[cast.Cast](t)(parsed(t, "cast upper upper\ngum\nbase\n")), cast.Cast{Name: "upper", Upper: true})
	// Runs need not be as long as possible.
	short := "cast c lower\ngum\nrun 0 0 0 1\nrun 0 0 1 2\nbase\n"
	same(t, "Parse of short runs", fine[cast.Cast](t)(parsed(t, short)), cast.Cast{Name: "c", Gum: []api.Cell{at(0, 0, 0), at(0, 0, 1), at(0, 0, 2)}})
	full := "cast c lower\ngum\nbase\n"
	var cells []api.Cell
	for i, z := range []int{-1000, -500, 0} {
		full += fmt.Sprintf("run %d 0 %d %d\n", i, z, 1000)
		cells = append(cells, block(t, at(i, 0, z), at(i, 0, z+999))...)
	}
	same(t, "Parse of long runs", fine[cast.Cast](t)(parsed(t, full)), cast.Cast{Name: "c", Base: cells})
}

func TestFaultyTexts(t *testing.T) {
	unread(t, "", api.ErrTorn, 0)
	unread(t, "cast c lower", api.ErrTorn, 0)
	unread(t, strings.TrimSuffix(chapterText(), "\n"), api.ErrTorn, 0)
	unread(t, "x", api.ErrTorn, 0)
	unread(t, "\n", api.ErrSyntax, 1)
	unread(t, chapterText()+"\n", api.ErrSyntax, 12)
	unread(t, strings.ReplaceAll(chapterText(), "\n", "\r\n"), api.ErrSyntax, 1)
	unread(t, "cast c lower\n", api.ErrSyntax, 2)
	unread(t, "cast c lower\ngum\n", api.ErrSyntax, 3)
	unread(t, "cast c lower\ntooth a 0 0 1\nrun 0 0 0 1\nmark m 0 0 0\n", api.ErrSyntax, 5)
	unread(t, "cast c lower\ngum\nrun 0 0 0 1\n", api.ErrSyntax, 4)
	unread(t, "cast c lower\nbase\n", api.ErrSyntax, 2)
	// A line that cannot be read comes before the errors of the cast.
	unread(t, "cast - lower\ngum\nbase\nx\n", api.ErrSyntax, 4)
	unread(t, "cast - lower\ngum\n", api.ErrSyntax, 3)
}

// TestFaultyLines puts faulty lines in the place of good ones: each of them is the first one that cannot be read.
func TestFaultyLines(t *testing.T) {
	lines := strings.SplitAfter(chapterText(), "\n")
	for at, bad := range map[int][]string{
		0: {"", " ", "cast", "cast c", "cast c lower ", " cast c lower", "cast  lower", "cast c  lower", "cast c Lower", "cast c upperlower", "cast c lower lower", "cast c ", "Cast c lower", "cast\tc\tlower", "casts c lower", "upper c lower"},
		1: {"", "tooth", "tooth a", "tooth a 0 0", "tooth a 0 0 1 1", "tooth  0 0 1", "tooth a 0  1", "tooth a 0 0 1 ", "tooth a x 0 1", "tooth a 0 x 1", "tooth a 0 0 x", "tooth a 00 0 1", "tooth a 0 0 1000000000", "tooths a 0 0 1"},
		2: {"run", "run 0 0 0", "run 0 0 0 1 1", "run 0 0 0 0", "run 0 0 0 -1", "run 0 0 0 4097", "run 0 0 0 01", "run 0 0 0 1.0", "run 0 0 0 1000000001", "run 0 0 0 x", "run 0 0 0  1", "run 0 0 0 ", "run x 0 0 1", "run 0 x 0 1", "run 0 0 x 1", "run a 0 0 0 1", "runs 0 0 0 1"},
		3: {"mark", "mark tip 0 0", "mark tip 0 0 1 1", "mark  0 0 1", "mark tip x 0 1", "mark tip 0 x 1", "mark tip 0 0 x", "mark tip 0 0 1 ", "marks tip 0 0 1"},
		6: {"", "gum ", " gum", "gum gum", "gums", "Gum"},
		9: {"", "base ", " base", "base base", "bases", "gum"},
	} {
		for _, line := range bad {
			changed := slices.Clone(lines)
			changed[at] = line + "\n"
			unread(t, strings.Join(changed, ""), api.ErrSyntax, at+1)
		}
	}
}

func TestIntegersOfTexts(t *testing.T) {
	for _, word := range []string{"00", "-0", "+1", "01", "-01", "1.0", "1e3", "0x1", "1_0", "-", "--1", "1-", "1000000000", "-1000000000", "0999999999", "99999999999999999999", "\x31\x00", "١", "a", "1\t"} {
		unread(t, "cast c lower\ntooth a "+word+" 0 1\nrun 0 0 0 1\ngum\nbase\n", api.ErrSyntax, 2)
		unread(t, "cast c lower\ntooth a 0 0 1\nrun 0 "+word+" 0 1\ngum\nbase\n", api.ErrSyntax, 3)
		unread(t, "cast c lower\ntooth a 0 0 1\nrun 0 0 0 1\nmark m 0 0 "+word+"\ngum\nbase\n", api.ErrSyntax, 4)
		unread(t, "cast c lower\ngum\nrun 0 0 0 "+word+"\nbase\n", api.ErrSyntax, 3)
	}
	for _, word := range []string{"999999999", "-999999999", "1001", "-1001"} {
		unread(t, "cast c lower\ntooth a "+word+" 0 1\nrun 0 0 0 1\ngum\nbase\n", api.ErrRange, 0)
		unread(t, "cast c lower\ngum\nrun 0 0 "+word+" 4096\nbase\n", api.ErrRange, 0)
		unread(t, "cast c lower\ntooth a 0 0 1\nrun 0 0 0 1\nmark m 0 0 "+word+"\ngum\nbase\n", api.ErrUnknown, 0)
	}
	axis := fine[cast.Cast](t)(parsed(t, "cast c lower\ntooth a -1000 0 1000\nrun -7 10 -1000 1\ngum\nbase\n"))
	same(t, "numbers of a text", axis.Teeth, []cast.Tooth{{Name: "a", Cells: []api.Cell{at(-7, 10, -1000)}, Axis: at(-1000, 0, 1000)}})
}

// TestErrorsOfReadCasts has texts that can be read, of casts with errors.
func TestErrorsOfReadCasts(t *testing.T) {
	many := "cast c lower\n"
	for i := range 33 {
		many += fmt.Sprintf("tooth t%d 0 0 1\nrun %d 0 0 1\n", i, i)
	}
	marks := "cast c lower\ntooth a 0 0 1\nrun 0 0 0 1\n"
	for i := range 17 {
		marks += fmt.Sprintf("mark m%d 0 0 0\n", i)
	}
	for _, row := range []struct {
		text string
		e    api.Errno
	}{
		{"cast - lower\ngum\nbase\n", api.ErrName}, {"cast abcdefghijklmnopqrstuvwxy lower\ngum\nbase\n", api.ErrName}, {"cast \t lower\ngum\nbase\n", api.ErrName}, {"cast \xff\x00 lower\ngum\nbase\n", api.ErrName},
		{many + "gum\nbase\n", api.ErrMany}, {"cast c lower\ntooth 1 0 0 1\nrun 0 0 0 1\ngum\nbase\n", api.ErrName}, {"cast c lower\ntooth a 0 0 1\nrun 0 0 0 1\ntooth a 0 0 1\nrun 1 0 0 1\ngum\nbase\n", api.ErrTwice},
		{"cast c lower\ntooth a 0 0 1\ngum\nbase\n", api.ErrEmpty}, {"cast c lower\ntooth a 0 0 1\nmark m 0 0 0\ngum\nbase\n", api.ErrEmpty}, {"cast c lower\ntooth a 0 0 1\ntooth b 0 0 1\nrun 0 0 0 1\ngum\nbase\n", api.ErrEmpty},
		{"cast c lower\ntooth a 0 0 0\nrun 0 0 0 1\ngum\nbase\n", api.ErrZero}, {marks + "gum\nbase\n", api.ErrMany}, {"cast c lower\ntooth a 0 0 1\nrun 0 0 0 1\nmark 1 0 0 0\ngum\nbase\n", api.ErrName},
		{"cast c lower\ntooth a 0 0 1\nrun 0 0 0 1\nmark m 0 0 1\ngum\nbase\n", api.ErrUnknown},
		{"cast c lower\ngum\nrun 0 0 0 2\nrun 0 0 1 1\nbase\n", api.ErrOrder}, {"cast c lower\ngum\nrun 0 0 1 1\nrun 0 0 0 1\nbase\n", api.ErrOrder}, {"cast c lower\ngum\nbase\nrun 1 0 0 1\nrun 0 0 0 1\n", api.ErrOrder},
		{"cast c lower\ngum\nrun 0 0 0 1001\nbase\n", api.OK}, {"cast c lower\ngum\nrun 0 0 0 1002\nbase\n", api.ErrRange}, {"cast c lower\ngum\nrun 0 0 0 4096\nbase\n", api.ErrRange},
		{"cast c lower\ngum\nrun 0 0 0 4096\nrun 0 0 0 1\nbase\n", api.ErrMany}, {"cast c lower\ngum\n" + strings.Repeat("run 0 0 0 4096\n", 250) + "base\n", api.ErrMany}, {"cast - lower\ngum\n" + strings.Repeat("run 0 0 0 4096\n", 9) + "base\n", api.ErrName},
		{"cast c lower\ngum\nrun 0 0 0 1000\nrun 1 0 0 1000\nrun 2 0 0 1000\nrun 3 0 0 1000\nrun 4 0 0 96\nbase\n", api.OK}, {"cast c lower\ngum\nrun 0 0 0 1000\nrun 1 0 0 1000\nrun 2 0 0 1000\nrun 3 0 0 1000\nbase\nrun 4 0 0 97\n", api.ErrMany},
		{"cast c lower\ngum\nrun 0 0 0 1\nbase\nrun 0 0 0 1\n", api.ErrHit}, {"cast c lower\ntooth a 0 0 1\nrun 0 0 0 3\ngum\nrun 0 0 2 1\nbase\n", api.ErrHit},
	} {
		c, line, e := cast.Parse(row.text)
		same(t, short(row.text), e, row.e)
		same(t, "the line of "+short(row.text), line, 0)
		if row.e != api.OK {
			refused(t, short(row.text), c, e, row.e)
		}
	}
}

// TestOrderOfLines has lines of all kinds in any order: each of them can be read only where it may come.
func TestOrderOfLines(t *testing.T) {
	good := regexp.MustCompile(`^(c((t+r*m*)*(gr*(br*)?)?)?)?$`)
	whole := regexp.MustCompile(`^c(t+r*m*)*gr*br*$`)
	r := dice()
	texts := map[byte]string{'c': "cast c lower\n", 'm': "mark m 0 0 0\n", 'g': "gum\n", 'b': "base\n"}
	for range 3000 {
		// Half of the lists of kinds begin as they should.
		kinds := []string{"", "c", "ctr", "ctrm", "cg", "cgb"}[r.IntN(6)]
		for range r.IntN(6) {
			kinds += string("ctrmgb"[r.IntN(6)])
		}
		text, bad := "", 0
		for i := range len(kinds) {
			switch kinds[i] {
			case 't':
				text += fmt.Sprintf("tooth t%d 0 0 1\n", i)
			case 'r':
				text += fmt.Sprintf("run %d 0 0 1\n", i)
			default:
				text += texts[kinds[i]]
			}
			if bad == 0 && !good.MatchString(kinds[:i+1]) {
				bad = i + 1
			}
		}
		if bad == 0 && !whole.MatchString(kinds) {
			bad = len(kinds) + 1
		}
		switch {
		case kinds == "":
			unread(t, text, api.ErrTorn, 0)
		case bad > 0:
			unread(t, text, api.ErrSyntax, bad)
		default:
			_, line, e := cast.Parse(text)
			same(t, kinds, line, 0)
			same(t, kinds+" can be read", e != api.ErrSyntax, true)
		}
	}
}
