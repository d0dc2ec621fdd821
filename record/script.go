package record

import (
	"slices"
	"strconv"

	"cusp/api"
)

// The words of scripts.
const (
	wordCase   = "case"
	wordCrown  = "crown"
	wordInlay  = "inlay"
	wordBridge = "bridge"
	wordIn     = "in"
	wordShade  = "shade"
	wordGap    = "gap"
	wordTo     = "-"
	wordEnd    = ";"
)

// teethOf returns the fewest and the most teeth of an item of a kind; of no kind there are none.
func teethOf(kind string) (int, int) {
	switch kind {
	case wordCrown, wordInlay:
		return 1, 1
	case wordBridge:
		return 2, MaxSpan
	}
	return 0, 0
}

// isRow reports whether each tooth has the number that is one more than the one before.
func isRow(teeth []int) bool {
	for i, tooth := range teeth {
		if i > 0 && tooth != teeth[i-1]+1 {
			return false
		}
	}
	return true
}

// check returns the first error of an item behind others with some teeth, or OK.
func (i Item) check(taken []int) api.Errno {
	fewest, most := teethOf(i.Kind)
	isTaken := func(tooth int) bool { return slices.Contains(taken, tooth) }
	if e := first(when(most == 0, api.ErrKind), allWithin(i.Teeth, 1, MaxTooth)); e != api.OK {
		return e
	}
	return first(
		when(len(i.Teeth) < fewest || len(i.Teeth) > most || !isRow(i.Teeth), api.ErrShape),
		when(slices.ContainsFunc(i.Teeth, isTaken), api.ErrTwice),
		checkName(i.Material),
		when(i.Shade != "", checkName(i.Shade)),
		within(i.Gap, 0, MaxGap),
	)
}

// CheckScript returns the first error of a script, or OK.
func CheckScript(s Script) api.Errno {
	e := first(
		checkName(s.Case),
		when(len(s.Items) == 0, api.ErrEmpty),
		when(len(s.Items) > MaxItems, api.ErrMany),
	)
	if e != api.OK {
		return e
	}
	var taken []int
	for _, i := range s.Items {
		if e := i.check(taken); e != api.OK {
			return e
		}
		taken = append(taken, i.Teeth...)
	}
	return api.OK
}

// text returns the text of an item.
func (i Item) text() string {
	out := i.Kind + " " + strconv.Itoa(i.Teeth[0])
	if i.Kind == wordBridge {
		out += wordTo + strconv.Itoa(i.Teeth[len(i.Teeth)-1])
	}
	out += " " + wordIn + " " + i.Material
	if i.Shade != "" {
		out += " " + wordShade + " " + i.Shade
	}
	if i.Gap != 0 {
		out += " " + wordGap + " " + strconv.Itoa(i.Gap)
	}
	return out + wordEnd
}

// PrintScript returns the text of a script.
func PrintScript(s Script) (string, api.Errno) {
	if e := CheckScript(s); e != api.OK {
		return "", e
	}
	text := wordCase + " " + s.Case + wordEnd
	for _, i := range s.Items {
		text += " " + i.text()
	}
	if len(text) > api.MaxText {
		return "", api.ErrLong
	}
	return text, api.OK
}
