package record

import (
	"strconv"
	"strings"

	"cusp/api"
)

// The numbers of a check sum, and the mark before it.
const (
	sumFactor  = 263
	sumModulus = 9999973
	sumDigits  = 7
	sumMark    = "#"
)

// checkSum returns the check sum of a text.
func checkSum(s string) string {
	x := 1
	for i := range len(s) {
		x = (sumFactor*x + int(s[i])) % sumModulus
	}
	digits := strconv.Itoa(x)
	return strings.Repeat("0", sumDigits-len(digits)) + digits
}

// record returns the record of an event.
func record(e api.Event) string {
	b := body(e)
	return b + sumMark + checkSum(b) + "\n"
}

// readBody returns the event with a body, if a text is that of one.
func readBody(s string) (api.Event, bool) {
	digits, line, _ := strings.Cut(s, " ")
	n, isNumber := number(digits)
	e, isLine := readLine(line)
	e.Number = n
	return e, isNumber && isLine && CheckEvent(e) == api.OK
}

// readRecord returns the event of a record, without its line feed, that has to have a Number.
func readRecord(line string, wanted int) (api.Event, api.Errno) {
	at := len(line) - sumDigits - len(sumMark)
	if at < 0 || line[at:at+len(sumMark)] != sumMark || !areDigits(line[at+len(sumMark):]) {
		return api.Event{}, api.ErrSyntax
	}
	if checkSum(line[:at]) != line[at+len(sumMark):] {
		return api.Event{}, api.ErrCheck
	}
	e, is := readBody(line[:at])
	return e, first(when(!is, api.ErrSyntax), when(e.Number != wanted, api.ErrOrder))
}

// Recover returns the events of the longest beginning that is a log.
func Recover(log string) ([]api.Event, int, api.Errno) {
	if len(log) > api.MaxLog {
		return nil, 0, api.ErrLong
	}
	var l []api.Event
	at := 0
	for at < len(log) {
		line, _, isWhole := strings.Cut(log[at:], "\n")
		if !isWhole {
			return l, at, api.ErrTorn
		}
		event, e := readRecord(line, len(l)+1)
		if e != api.OK {
			return l, at, e
		}
		l = append(l, event)
		at += len(line) + 1
	}
	return l, at, api.OK
}

// Append returns a log with a further record.
func Append(log string, e api.Event) (string, api.Errno) {
	l, _, bad := Recover(log)
	bad = first(bad, CheckEvent(e), when(e.Number != len(l)+1, api.ErrOrder))
	if bad != api.OK {
		return "", bad
	}
	longer := log + record(e)
	if len(longer) > api.MaxLog {
		return "", api.ErrLong
	}
	return longer, api.OK
}
