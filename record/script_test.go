package record_test

import (
	"fmt"
	"regexp"
	"slices"
	"strings"
	"testing"

	"cusp/api"
	"cusp/record"
)

// P10.1: CheckScript, PrintScript and ParseScript.

// checked reports another error of a script, also by PrintScript.
func checked(t *testing.T, what string, s record.Script, wanted api.Errno) {
	t.Helper()
	same(t, what, record.CheckScript(s), wanted)
	text, e := record.PrintScript(s)
	if wanted != api.OK {
		refused(t, what+" printed", text, e, wanted)
	} else {
		same(t, what+" printed", e, api.OK)
	}
}

// of returns a script with some items.
func of(items ...record.Item) record.Script { return record.Script{Case: "c", Items: items} }

func TestCheckScript(t *testing.T) {
	checked(t, "the script of the chapter", script(), api.OK)
	checked(t, "nothing", record.Script{}, api.ErrName)
	checked(t, "no items", of(), api.ErrEmpty)
	var crowns []record.Item
	for tooth := 1; tooth <= 32; tooth++ {
		crowns = append(crowns, crown(tooth, "x"))
	}
	checked(t, "32 items", of(crowns...), api.OK)
	checked(t, "33 items", of(append(crowns, crown(1, "x"))...), api.ErrMany)
	checked(t, "33 items without a case", record.Script{Items: make([]record.Item, 33)}, api.ErrName)
	for _, name := range badNames() {
		checked(t, "a case", record.Script{Case: name, Items: crowns}, api.ErrName)
		checked(t, "a material", of(crown(1, name)), api.ErrName)
		i := crown(1, "x")
		i.Shade = name
		wanted := api.ErrName
		if name == "" {
			wanted = api.OK
		}
		checked(t, "a shade", of(i), wanted)
	}
	long := crown(1, longName)
	long.Shade = longName
	checked(t, "long names", record.Script{Case: longName, Items: []record.Item{long}}, api.OK)
	for gap, wanted := range map[int]api.Errno{0: api.OK, 20: api.OK, 21: api.ErrRange, -1: api.ErrRange, least: api.ErrRange, greatest: api.ErrRange} {
		i := crown(1, "x")
		i.Gap = gap
		checked(t, "a gap", of(i), wanted)
	}
}

func TestTeethOfItems(t *testing.T) {
	far := bridge(17, 32, "x").Teeth
	for _, row := range []struct {
		kind  string
		teeth []int
		e     api.Errno
	}{
		{"crown", []int{1}, api.OK}, {"inlay", []int{32}, api.OK}, {"crown", []int{0}, api.ErrRange}, {"inlay", []int{33}, api.ErrRange}, {"crown", []int{-1}, api.ErrRange}, {"crown", []int{least}, api.ErrRange},
		{"crown", nil, api.ErrShape}, {"inlay", nil, api.ErrShape}, {"crown", []int{1, 2}, api.ErrShape}, {"inlay", []int{3, 3}, api.ErrShape},
		{"bridge", nil, api.ErrShape}, {"bridge", []int{1}, api.ErrShape}, {"bridge", []int{1, 2}, api.OK}, {"bridge", far, api.OK}, {"bridge", append([]int{16}, far...), api.ErrShape},
		{"bridge", []int{1, 3}, api.ErrShape}, {"bridge", []int{2, 1}, api.ErrShape}, {"bridge", []int{2, 2}, api.ErrShape}, {"bridge", []int{1, 2, 4}, api.ErrShape}, {"bridge", []int{1, 3, 4}, api.ErrShape}, {"bridge", []int{1, 2, 2}, api.ErrShape},
		{"bridge", []int{32, 33}, api.ErrRange}, {"bridge", []int{0, 1}, api.ErrRange}, {"bridge", []int{5, 40}, api.ErrRange}, {"bridge", []int{greatest, least}, api.ErrRange}, {"crown", []int{1, 33}, api.ErrRange},
		{"", []int{1}, api.ErrKind}, {"Crown", []int{1}, api.ErrKind}, {"veneer", []int{1}, api.ErrKind}, {"case", []int{99}, api.ErrKind}, {"bridges", []int{1, 2}, api.ErrKind}, {"crown ", nil, api.ErrKind},
	} {
		checked(t, fmt.Sprint(row), of(record.Item{Kind: row.kind, Teeth: row.teeth, Material: "x"}), row.e)
	}
	for _, row := range []struct {
		items []record.Item
		e     api.Errno
	}{
		{[]record.Item{crown(1, "x"), crown(1, "x")}, api.ErrTwice}, {[]record.Item{crown(1, "x"), crown(2, "x"), crown(1, "x")}, api.ErrTwice}, {[]record.Item{bridge(3, 5, "x"), crown(4, "x")}, api.ErrTwice},
		{[]record.Item{crown(5, "x"), bridge(3, 5, "x")}, api.ErrTwice}, {[]record.Item{crown(3, "x"), bridge(3, 5, "x")}, api.ErrTwice}, {[]record.Item{bridge(1, 3, "x"), bridge(3, 5, "x")}, api.ErrTwice}, {[]record.Item{bridge(4, 5, "x"), bridge(1, 3, "x"), crown(6, "x")}, api.OK},
	} {
		checked(t, fmt.Sprint(row), of(row.items...), row.e)
	}
}

// TestOrderOfErrorsOfScripts has items with several errors, of which the first ones are put right, one after another.
func TestOrderOfErrorsOfScripts(t *testing.T) {
	i := record.Item{Kind: "?", Teeth: []int{33, 1}, Gap: 99, Shade: "?"}
	later := record.Item{Kind: "!"}
	check := func(wanted api.Errno) {
		t.Helper()
		checked(t, fmt.Sprint(i), of(crown(9, "x"), i, later), wanted)
	}
	check(api.ErrKind)
	i.Kind = "crown"
	check(api.ErrRange)
	i.Teeth = []int{9, 9}
	check(api.ErrShape)
	i.Teeth = []int{9}
	check(api.ErrTwice)
	i.Teeth = []int{8}
	check(api.ErrName)
	i.Material = "x"
	check(api.ErrName)
	i.Shade = "x"
	check(api.ErrRange)
	i.Gap = 20
	check(api.ErrKind)
	later = crown(1, "")
	check(api.ErrName)
}

func TestPrintScript(t *testing.T) {
	same(t, "PrintScript", fine[string](t)(record.PrintScript(script())), printed)
	i := record.Item{Kind: "inlay", Teeth: []int{32}, Material: "in", Gap: 20}
	same(t, "a gap", fine[string](t)(record.PrintScript(of(i))), "case c; inlay 32 in in gap 20;")
	i.Gap, i.Shade = 0, "gap"
	same(t, "a shade", fine[string](t)(record.PrintScript(of(i, bridge(1, 2, "x"), bridge(16, 31, "y")))), "case c; inlay 32 in in shade gap; bridge 1-2 in x; bridge 16-31 in y;")
}

// unread reports another error of a text, or another place, and a script beside it.
func unread(t *testing.T, text string, wanted api.Errno, place int) {
	t.Helper()
	s, at, e := record.ParseScript(text)
	refused(t, "ParseScript of "+short(text), s, e, wanted)
	same(t, "the place in "+short(text), at, place)
}

// read reports another script of a text.
func read(t *testing.T, text string, wanted record.Script) {
	t.Helper()
	s, at, e := record.ParseScript(text)
	same(t, "ParseScript of "+short(text), s, wanted)
	same(t, "the error of "+short(text), e, api.OK)
	same(t, "the place in "+short(text), at, 0)
}

func TestParseScript(t *testing.T) {
	read(t, printed, script())
	read(t, "case c; crown 4 in zir shade A2 gap 1; bridge 6 - 8 in met;", script())
	read(t, "\n case\nc;crown 4 in zir shade A2 gap 1;bridge 6-8\n\nin met gap 0 ;\n ", script())
	i := record.Item{Kind: "inlay", Teeth: []int{1}, Material: "in", Shade: "shade", Gap: 2}
	read(t, "case crown;inlay 1 in in shade shade gap 2;", record.Script{Case: "crown", Items: []record.Item{i}})
	read(t, "case azAZ09_;crown 1 in x;", record.Script{Case: "azAZ09_", Items: []record.Item{crown(1, "x")}})
	read(t, "case case; crown 1 in shade;", record.Script{Case: "case", Items: []record.Item{crown(1, "shade")}})
	read(t, "case c; crown 1 in gap; bridge 17-32 in shade; bridge 2-16 in inlay;", of(crown(1, "gap"), bridge(17, 32, "shade"), bridge(2, 16, "inlay")))
}

func TestFaultyScripts(t *testing.T) {
	for text, place := range map[string]int{
		"": 1, " ": 2, "\n\n": 3, "case": 5, "case ": 6, "case c": 7, "case c ; ,": 10, "Case c;": 1, "cases c;": 1, "case;": 5, "case c d;": 8, "case -c;": 6, "case c\t;": 7, "case ä;": 6, "case cä;": 7, "\tcase c;": 1, "case c\r\n;": 7, "case c\x00;": 7,
		"case c;;": 8, "case c; crown": 14, "case c; crown in zir;": 15, "case c; crown 4": 16, "case c; crown 4 zir;": 17, "case c; crown 4 in": 19, "case c; crown 4 in ;": 20, "case c; crown 4 in x": 21, "case c; crown 4 in x\n": 22,
		"case c; crown 4 in x y;": 22, "case c; crown 4 in x shade": 27, "case c; crown 4 in x shade;": 27, "case c; crown 4 in x shade A": 29, "case c; crown 4 in x gap": 25, "case c; crown 4 in x gap;": 25, "case c; crown 4 in x gap 1": 27,
		"case c; crown 4 in x gap 1 shade A;": 28, "case c; crown 4 in x shade A shade B;": 30, "case c; crown 4 in x gap 1 gap 1;": 28, "case c; crown 4 in x gap -1;": 26, "case c; crown 4 in x gap 1.5;": 27, "case c; crown 4 in x shade A2-B;": 30,
		"case c; crown 4 in x, crown 5 in x;": 21, "case c; crown 4 in x; crown 5 in x": 35, "case c; crown 4 in x; veneer 5 in x;": 23, "case c; crown 4 in x; case d;": 23, "case c; crown 33 in x; inlay": 29,
		"case c; bridge 4-": 18, "case c; bridge 4-4 in x;": 18, "case c; bridge 4-3 in x;": 18, "case c; bridge 4 - 20 in x;": 20, "case c; bridge 4--5 in x;": 18, "case c; bridge -4-5 in x;": 16, "case c; bridge 4-5-6 in x;": 19, "case c; bridge 4 5 in x;": 18, "case c; bridge 4-05 in x;": 18, "case c; bridge 4-5 x;": 20, "case c; bridge 999999999-1000000000 in x;": 26,
		"case c; bridge 999999998-999999998 in x;": 26, "case c; crown 0-16 in x;": 17,
	} {
		unread(t, text, api.ErrSyntax, place)
	}
	for text, e := range map[string]api.Errno{
		"case c;": api.ErrEmpty, "case 1;": api.ErrName, "case _;": api.ErrName, "case " + longName + "x; crown 1 in x;": api.ErrName, "case c; crown 0 in x;": api.ErrRange, "case c; crown 33 in x;": api.ErrRange, "case c; crown 999999999 in x;": api.ErrRange,
		"case c; bridge 4 in x;": api.ErrShape, "case c; crown 4-5 in x;": api.ErrShape, "case c; inlay 1-16 in x;": api.ErrShape, "case c; bridge 20-33 in x;": api.ErrRange, "case c; bridge 0-1 in x;": api.ErrRange, "case c; bridge 999999998-999999999 in x;": api.ErrRange, "case c; crown 0-15 in x;": api.ErrRange,
		"case c; crown 4 in x; inlay 4 in x;": api.ErrTwice, "case c; crown 4 in 4;": api.ErrName, "case c; crown 4 in x shade 2A;": api.ErrName, "case c; crown 4 in x gap 21;": api.ErrRange, "case c; crown 4 in x gap 999999999;": api.ErrRange,
		"case 1;" + strings.Repeat("crown 1 in x;", 33): api.ErrName, "case c;" + strings.Repeat("crown 1 in x;", 33): api.ErrMany, "case c;" + strings.Repeat("crown 1 in x;", 300): api.ErrMany, "case c;" + strings.Repeat("crown 1 in x;", 32): api.ErrTwice,
	} {
		unread(t, text, e, 0)
	}
}

func TestNumbersOfScripts(t *testing.T) {
	for _, word := range []string{"01", "00", "1000000000", "0999999999", "99999999999999999999", "1a", "a1", "_1", "1_0", "0x1", "a", "+", "-", "\x01", "\xd9\xa1"} {
		unread(t, "case c; crown "+word+" in x;", api.ErrSyntax, 15)
		unread(t, "case c; bridge 1-"+word+" in x;", api.ErrSyntax, 18)
		unread(t, "case c; crown 1 in x gap "+word+";", api.ErrSyntax, 26)
	}
}

func TestLongScripts(t *testing.T) {
	read(t, printed+strings.Repeat("\n", 4096-len(printed)), script())
	unread(t, printed+strings.Repeat("\n", 4097-len(printed)), api.ErrLong, 0)
	unread(t, strings.Repeat(" ", 4096), api.ErrSyntax, 4097)
	unread(t, strings.Repeat(" ", 4097), api.ErrLong, 0)
	unread(t, strings.Repeat("-", 1<<20), api.ErrLong, 0)
	unread(t, "case "+strings.Repeat("x", 4090)+";", api.ErrName, 0)
}

// TestOrderOfWords has words in any order: the first one behind a beginning of a script is at fault.
func TestOrderOfWords(t *testing.T) {
	texts := map[byte]string{'c': "case", 'k': "bridge", 'n': "in", 's': "shade", 'g': "gap", 'd': "3", 'e': "5", 'w': "w", '-': "-", ';': ";", '?': "?"}
	name := "[cknsgdew]"
	item := `k([de]|d-e)n` + name + `(s` + name + `)?(g[de])?;`
	tail := `(` + name + `((s(` + name + `)?|s` + name + `g)|g|(s` + name + `)?g[de])?)?`
	begun := `k([de]|[de]-|d-e|([de]|d-e)n` + tail + `)?`
	good := regexp.MustCompile(`^(c|c` + name + `|c` + name + `;(` + item + `)*(` + begun + `)?)?$`)
	whole := regexp.MustCompile(`^c` + name + `;(` + item + `)*$`)
	r := dice()
	counts := map[bool]int{}
	for range 20000 {
		letters := one(r, "", "c", "cw;", "cw;kdnw;", "cw;kd-en", "cw;kdnws", "cw;kdnwg", "cw;kdn")
		for range r.IntN(8) {
			letters += one(r, strings.Split("cknsgdew-;?;kn", "")...)
		}
		text, bad := "", 0
		for i := range len(letters) {
			text += strings.Repeat(" ", between(r, 1, 2))
			if bad == 0 && !good.MatchString(letters[:i+1]) {
				bad = len(text) + 1
			}
			text += texts[letters[i]]
		}
		if bad == 0 && !whole.MatchString(letters) {
			bad = len(text) + 1
		}
		_, at, e := record.ParseScript(text)
		same(t, "the place in "+text, at, bad)
		same(t, text+" can be read", e != api.ErrSyntax, bad == 0)
		counts[bad == 0]++
	}
	if counts[true] < 500 || counts[false] < 500 {
		t.Errorf("%d texts that can be read, and %d others", counts[true], counts[false])
	}
}

// tokens returns the words of a printed script.
func tokens(text string) []string {
	return strings.Fields(strings.NewReplacer(";", " ;", "-", " - ").Replace(text))
}

// TestWrongWords puts wrong words into the place of right ones, and leaves out the last ones.
func TestWrongWords(t *testing.T) {
	r := dice()
	for range 300 {
		words := tokens(fine[string](t)(record.PrintScript(randomScript(r, 5, "zir", "x_1"))))
		for i := range words {
			before := strings.Join(words[:i], " ")
			if i > 0 && words[i-1] != ";" {
				unread(t, before, api.ErrSyntax, len(before)+1)
			}
			changed := slices.Clone(words)
			changed[i] = one(r, "?", ".", "\t", "\xff", "(", "#", "/", ":", "@", "[", "`", "{")
			unread(t, strings.Join(changed, " "), api.ErrSyntax, len(before)+1+min(i, 1))
		}
	}
}
