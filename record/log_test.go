package record_test

import (
	"fmt"
	"math/big"
	"strings"
	"testing"

	"cusp/api"
	"cusp/record"
)

// P10.5: Append and Recover.

// sum returns the check sum of a text: its bytes are the digits of a number to the base 263, before which there is a 1.
func sum(s string) string {
	x := big.NewInt(1)
	for _, b := range []byte(s) {
		x.Mul(x, big.NewInt(263)).Add(x, big.NewInt(int64(b)))
	}
	return fmt.Sprintf("%07d", x.Mod(x, big.NewInt(9999973)))
}

// withSum returns the line of a log with a text before its check sum.
func withSum(s string) string { return s + "#" + sum(s) + "\n" }

// logOf returns the log of events.
func logOf(l []api.Event) string {
	log := ""
	for _, e := range l {
		log += withSum(body(e))
	}
	return log
}

// recovered reports other events of a text, another length of them, or another error.
func recovered(t *testing.T, text string, wanted []api.Event, e api.Errno) {
	t.Helper()
	l, at, bad := record.Recover(text)
	what := short(text)
	same(t, "Recover of "+what, l, wanted)
	same(t, "the error of "+what, bad, e)
	same(t, "the length of "+what, at, len(logOf(wanted)))
}

func TestCheckSums(t *testing.T) {
	same(t, "of nothing", sum(""), "0000001")
	same(t, "of a byte", sum("1"), "0000312")
	same(t, "of two bytes", sum("11"), "0082105")
	// A text with the right sum is no body, one with another sum is not looked at.
	recovered(t, "#0000001\n", nil, api.ErrSyntax)
	recovered(t, "#0000002\n", nil, api.ErrCheck)
	recovered(t, "1#0000312\n", nil, api.ErrSyntax)
	recovered(t, "1#0000313\n", nil, api.ErrCheck)
	recovered(t, "11#0082105\n", nil, api.ErrSyntax)
	recovered(t, "11#0082106\n", nil, api.ErrCheck)
	r := dice()
	for range 300 {
		text := strings.ReplaceAll(randomText(r, 40), "\n", " ")
		recovered(t, withSum(text), nil, api.ErrSyntax)
		wrong := fmt.Sprintf("%07d", r.IntN(10000000))
		if wrong != sum(text) {
			recovered(t, text+"#"+wrong+"\n", nil, api.ErrCheck)
		}
	}
}

func TestRecover(t *testing.T) {
	recovered(t, "", nil, api.OK)
	recovered(t, "1 undo#"+sum("1 undo")+"\n", []api.Event{undo(1)}, api.OK)
	for n := range 8 {
		recovered(t, logOf(chapter(n)), chapter(n), api.OK)
	}
	// What is recovered need not be accepted.
	recovered(t, logOf(after(nil, some()...)), after(nil, some()...), api.OK)
	recovered(t, "1 lot z zir 999999999 0#"+sum("1 lot z zir 999999999 0")+"\n", []api.Event{event(1, "lot", []int{999999999, 0}, "z", "zir")}, api.OK)
	recovered(t, logOf(chapter(7)[1:]), nil, api.ErrOrder)
	recovered(t, logOf(append(chapter(3), chapter(5)[4])), chapter(3), api.ErrOrder)
	recovered(t, logOf(append(chapter(3), chapter(3)[2])), chapter(3), api.ErrOrder)
	recovered(t, logOf(append(chapter(3), chapter(1)...)), chapter(3), api.ErrOrder)
	recovered(t, logOf(append(chapter(3), chapter(1)...))+"x", chapter(3), api.ErrOrder)
}

func TestFaultyLogs(t *testing.T) {
	for text, e := range map[string]api.Errno{
		"9": api.ErrTorn, " ": api.ErrTorn, "#0000001": api.ErrTorn, "\n": api.ErrSyntax, "#\n": api.ErrSyntax, "0000001\n": api.ErrSyntax, "1#000312\n": api.ErrSyntax, "1#00000312\n": api.ErrSyntax, "1#000031a\n": api.ErrSyntax, "1#-000312\n": api.ErrSyntax, "1#+000312\n": api.ErrSyntax, "1# 000312\n": api.ErrSyntax, "1#0000312 \n": api.ErrSyntax, "1#0000312\r\n": api.ErrSyntax, "1 0000312\n": api.ErrSyntax, "1##0000312\n": api.ErrCheck, "1#00003\xd9\xa1\n": api.ErrSyntax, "1#000031\x80\n": api.ErrSyntax, "1#000#312\n": api.ErrSyntax,
	} {
		recovered(t, text, nil, e)
		recovered(t, logOf(chapter(4))+text, chapter(4), e)
	}
	for _, text := range []string{
		"", " ", "1", "1 ", "undo", "1 undo ", "1  undo", " 1 undo", "0 undo", "01 undo", "1001 undo", "-1 undo", "+1 undo", "x undo", "1000000000 undo", "1 undo undo", "1 1 undo", "1 Undo", "1\tundo", "1 undo#", "1 x", "1 void p", "1 void p 01", "1 void p 1 1", "1 void 1 1", "1 void p 1000000000", "1 void " + longName + "x 1", "1 void p 1 x",
		"1 rx r 1", "1 rx r 1 ", "1 rx r 1 x", "1 rx r 1 case c;", "1 rx r 1 case c;crown 4 in x;", "1 rx r 1  case c; crown 4 in x;", "1 rx r 1 case c; crown 4 in x; ", "1 rx r 1 case c; crown 33 in x;", "1 rx 1 case c; crown 4 in x;", "1 part p", "1 open",
	} {
		recovered(t, withSum(text), nil, api.ErrSyntax)
		recovered(t, withSum(text)+logOf(chapter(1)), nil, api.ErrSyntax)
	}
	for _, line := range noLines() {
		if !strings.Contains(line, "\n") {
			recovered(t, withSum("1 "+line), nil, api.ErrSyntax)
		}
	}
	// A sum that is wrong comes before a body that is none, and this before another Number.
	recovered(t, "x#0000000\n", nil, api.ErrCheck)
	recovered(t, withSum("2 void 1 1"), nil, api.ErrSyntax)
	recovered(t, withSum("2 void p 1"), nil, api.ErrOrder)
	recovered(t, withSum("1000 undo"), nil, api.ErrOrder)
}

// TestTornLogs has all beginnings of a log.
func TestTornLogs(t *testing.T) {
	log := logOf(chapter(7))
	for n := range len(log) {
		whole := strings.Count(log[:n], "\n")
		wanted := api.ErrTorn
		if n == len(logOf(chapter(whole))) {
			wanted = api.OK
		}
		recovered(t, log[:n], chapter(whole), wanted)
	}
}

func TestAppend(t *testing.T) {
	log := ""
	for i, e := range chapter(7) {
		log = fine[string](t)(record.Append(log, e))
		same(t, "the log", log, logOf(chapter(i+1)))
	}
	// What is appended need not be accepted.
	same(t, "an undo of nothing", fine[string](t)(record.Append("", undo(1))), withSum("1 undo"))
	refuse := func(log string, e api.Event, wanted api.Errno) {
		t.Helper()
		got, bad := record.Append(log, e)
		refused(t, "Append of "+body(e), got, bad, wanted)
	}
	for _, n := range []int{1, 6, 7, 9, 1000} {
		refuse(log, undo(n), api.ErrOrder)
	}
	refuse(log, undo(1001), api.ErrRange)
	refuse(log, undo(0), api.ErrRange)
	refuse("", undo(2), api.ErrOrder)
	refuse("", api.Event{}, api.ErrRange)
	refuse(log, api.Event{Number: 1, Kind: "x"}, api.ErrKind)
	refuse(log, event(8, "void", []int{1}, "1"), api.ErrName)
	refuse(log, rx(1, 1, "r", "x"), api.ErrForm)
	for text, wanted := range map[string]api.Errno{"x": api.ErrTorn, "\n": api.ErrSyntax, "#0000000\n": api.ErrCheck, logOf(chapter(2)[1:]): api.ErrOrder, strings.Repeat("x", 1000001): api.ErrLong} {
		refuse(text, api.Event{}, wanted)
		refuse(text, undo(1), wanted)
	}
}

func TestManyRecords(t *testing.T) {
	var l []api.Event
	for n := 1; n <= 1000; n++ {
		l = append(l, undo(n))
	}
	log := logOf(l)
	recovered(t, log, l, api.OK)
	same(t, "Append of the last one", fine[string](t)(record.Append(logOf(l[:999]), l[999])), log)
	recovered(t, log+withSum("1001 undo"), l, api.ErrSyntax)
	recovered(t, log+withSum("1000 undo"), l, api.ErrOrder)
	got, e := record.Append(log, undo(1000))
	refused(t, "Append of one more", got, e, api.ErrOrder)
	got, e = record.Append(log, undo(1001))
	refused(t, "Append of one more", got, e, api.ErrRange)
}

// longEvent returns an event of a prescription with a record of so many bytes; it has from 2000 to 2400 ones.
func longEvent(t *testing.T, number, bytes int) api.Event {
	s := record.Script{Case: "c"}
	for tooth := 1; tooth <= 32; tooth++ {
		s.Items = append(s.Items, record.Item{Kind: "crown", Teeth: []int{tooth}, Material: "m", Shade: longName, Gap: 20})
	}
	text := func() string { return fine[string](t)(record.PrintScript(s)) }
	left := bytes - len(withSum(body(rx(number, 1, "r", text()))))
	for i := range s.Items {
		n := min(left, 23)
		s.Items[i].Material += strings.Repeat("m", n)
		left -= n
	}
	same(t, "the bytes that are left", left, 0)
	return rx(number, 1, "r", text())
}

func TestLongLogs(t *testing.T) {
	var l []api.Event
	left := 1000000
	for left > 2400 {
		l = append(l, longEvent(t, len(l)+1, max(2000, min(2400, left-2000))))
		left -= len(withSum(body(l[len(l)-1])))
	}
	log := logOf(l)
	last := longEvent(t, len(l)+1, left)
	full := fine[string](t)(record.Append(log, last))
	same(t, "the bytes of the longest log", len(full), 1000000)
	recovered(t, full, append(l, last), api.OK)
	got, e := record.Append(log, longEvent(t, len(l)+1, left+1))
	refused(t, "Append of one more byte", got, e, api.ErrLong)
	got, e = record.Append(full, undo(len(l)+2))
	refused(t, "Append to the longest log", got, e, api.ErrLong)
	got, e = record.Append(full, undo(len(l)+1))
	refused(t, "Append to the longest log", got, e, api.ErrOrder)
	for _, text := range []string{full + "\n", full + withSum(body(undo(len(l)+2))), strings.Repeat("\n", 1000001)} {
		recovered(t, text, nil, api.ErrLong)
	}
	recovered(t, strings.Repeat("\n", 1000000), nil, api.ErrSyntax)
}
