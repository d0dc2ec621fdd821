package record

import (
	"iter"
	"slices"

	"cusp/api"
)

// isOfName reports whether a byte stands in longer words: those that may be names.
func isOfName(b byte) bool {
	return b >= 'A' && b <= 'Z' || b >= 'a' && b <= 'z' || b >= '0' && b <= '9' || b == '_'
}

// wordsOf visits the words of a text, and the places where they begin, from 1 on.
func wordsOf(s string) iter.Seq2[int, string] {
	return func(yield func(int, string) bool) {
		for at := 0; at < len(s); {
			end := at + 1
			for isOfName(s[at]) && end < len(s) && isOfName(s[end]) {
				end++
			}
			if s[at] != ' ' && s[at] != '\n' && !yield(at+1, s[at:end]) {
				return
			}
			at = end
		}
	}
}

// word is a word of a text with its place.
type word struct {
	at   int
	text string
}

// reading is the words of a text that have not been read yet, and the place of the first one that is not as it has to be, or 0.
type reading struct {
	words []word
	fault int
}

// readingOf returns the reading of a text. The end of the text is an empty word, which is never as it has to be.
func readingOf(s string) *reading {
	var r reading
	for at, text := range wordsOf(s) {
		r.words = append(r.words, word{at, text})
	}
	r.words = append(r.words, word{at: len(s) + 1})
	return &r
}

// isOver reports whether nothing is left to be read.
func (r *reading) isOver() bool { return r.fault > 0 || len(r.words) == 1 }

// next returns the next word, if it is as it has to be; behind a fault there are only empty ones.
func (r *reading) next(isRight func(string) bool) string {
	w := r.words[0]
	if r.fault == 0 && !isRight(w.text) {
		r.fault = w.at
	}
	if r.fault > 0 {
		return ""
	}
	r.words = r.words[1:]
	return w.text
}

// oneOf returns the rule that a word is one of some.
func oneOf(l ...string) func(string) bool {
	return func(s string) bool { return slices.Contains(l, s) }
}

// isLong reports whether a word is one of letters, digits and _.
func isLong(s string) bool { return s != "" && isOfName(s[0]) }

// readTeeth reads the teeth of an item, and the word behind them.
func readTeeth(next func(func(string) bool) string) []int {
	from, _ := number(next(isNumber))
	teeth := []int{from}
	if next(oneOf(wordTo, wordIn)) != wordTo {
		return teeth
	}
	to, _ := number(next(func(s string) bool {
		n, is := number(s)
		return is && n > from && n < from+MaxSpan
	}))
	for tooth := from + 1; tooth <= to; tooth++ {
		teeth = append(teeth, tooth)
	}
	next(oneOf(wordIn))
	return teeth
}

// readItem reads an item.
func readItem(next func(func(string) bool) string) Item {
	i := Item{Kind: next(oneOf(wordCrown, wordInlay, wordBridge))}
	i.Teeth = readTeeth(next)
	i.Material = next(isLong)
	behind := next(oneOf(wordShade, wordGap, wordEnd))
	if behind == wordShade {
		i.Shade = next(isLong)
		behind = next(oneOf(wordGap, wordEnd))
	}
	if behind == wordGap {
		i.Gap, _ = number(next(isNumber))
		next(oneOf(wordEnd))
	}
	return i
}

// readScript reads a script.
func (r *reading) readScript() Script {
	next := r.next
	next(oneOf(wordCase))
	s := Script{Case: next(isLong)}
	next(oneOf(wordEnd))
	for !r.isOver() {
		s.Items = append(s.Items, readItem(next))
	}
	return s
}

// ParseScript returns the script with a text, or the place of an error.
func ParseScript(s string) (Script, int, api.Errno) {
	if len(s) > api.MaxText {
		return Script{}, 0, api.ErrLong
	}
	r := readingOf(s)
	script := r.readScript()
	if r.fault > 0 {
		return Script{}, r.fault, api.ErrSyntax
	}
	if e := CheckScript(script); e != api.OK {
		return Script{}, 0, e
	}
	return script, 0, api.OK
}
