package tests

import (
	"regexp"
	"slices"
	"strconv"
	"strings"
	"testing"

	"loop.example/g01305/impl"
)

const longestScript = 3000
const mostLines = 50

// lineWords has what the words of a line tell, as its form has them.
type lineWords struct {
	n, k int
	list []int
	sign string
}

// lineCall does what a line does, by the calls that it names. Its last result is false if one of them fails.
type lineCall func(d impl.Desk, w lineWords) (impl.Desk, string, bool)

// setsPieces makes a line of a call that returns pieces.
func setsPieces(call func(list []int, w lineWords) ([]int, bool)) lineCall {
	return func(d impl.Desk, w lineWords) (impl.Desk, string, bool) {
		list, ok := call(d.Pieces, w)
		if len(list) == 0 {
			return impl.Desk{Pieces: list, Ruler: d.Ruler}, "0", ok
		}
		return impl.Desk{Pieces: list, Ruler: d.Ruler}, textWith(list, "+"), ok
	}
}

// setsRuler makes a line of a call that returns a ruler.
func setsRuler(call func(marks []int, w lineWords) ([]int, bool)) lineCall {
	return func(d impl.Desk, w lineWords) (impl.Desk, string, bool) {
		marks, ok := call(d.Ruler, w)
		return impl.Desk{Pieces: d.Pieces, Ruler: marks}, textWith(marks, "|"), ok
	}
}

// tellsNumber makes a line of a call that returns a number.
func tellsNumber(call func(d impl.Desk, w lineWords) (int, bool)) lineCall {
	return func(d impl.Desk, w lineWords) (impl.Desk, string, bool) {
		n, ok := call(d, w)
		return d, strconv.Itoa(n), ok
	}
}

// tellsText makes a line of a call that returns a text.
func tellsText(call func(d impl.Desk, w lineWords) (string, bool)) lineCall {
	return func(d impl.Desk, w lineWords) (impl.Desk, string, bool) {
		text, ok := call(d, w)
		if text == "" {
			text = "-"
		}
		return d, text, ok
	}
}

// tellsList makes a line of a call that returns a list.
func tellsList(call func(d impl.Desk, w lineWords) ([]int, bool)) lineCall {
	return tellsText(func(d impl.Desk, w lineWords) (string, bool) {
		list, ok := call(d, w)
		return textWith(list, ","), ok
	})
}

func textWith(list []int, between string) string {
	text := strings.Builder{}
	for i, n := range list {
		if i > 0 {
			text.WriteString(between)
		}
		text.WriteString(strconv.Itoa(n))
	}
	return text.String()
}

// changingLines returns what the lines do that change the desk, or may, by their forms.
func changingLines() map[string]lineCall {
	return map[string]lineCall{
		"pieces P": setsPieces(func(list []int, w lineWords) ([]int, bool) { return w.list, true }),
		"add N":    setsPieces(func(list []int, w lineWords) ([]int, bool) { return impl.PutPiece(list, w.n) }),
		"out N":    setsPieces(func(list []int, w lineWords) ([]int, bool) { return impl.TakePiece(list, w.n) }),
		"next": setsPieces(func(list []int, w lineWords) ([]int, bool) {
			n, _ := impl.BestNext(list)
			return impl.PutPiece(list, n)
		}),
		"least N": setsPieces(func(list []int, w lineWords) ([]int, bool) { return impl.LeastPiecesFor(w.n) }),
		"show":    setsPieces(func(list []int, w lineWords) ([]int, bool) { return list, true }),
		"ruler R": setsRuler(func(marks []int, w lineWords) ([]int, bool) { return w.list, true }),
		"mark N":  setsRuler(func(marks []int, w lineWords) ([]int, bool) { return impl.AddMark(marks, w.n) }),
		"wipe N":  setsRuler(func(marks []int, w lineWords) ([]int, bool) { return impl.DropMark(marks, w.n) }),
		"turn":    setsRuler(func(marks []int, w lineWords) ([]int, bool) { return impl.MirrorRuler(marks) }),
		"first N": setsRuler(func(marks []int, w lineWords) ([]int, bool) { return impl.FirstComplete(w.n) }),
		"marks":   setsRuler(func(marks []int, w lineWords) ([]int, bool) { return marks, true }),
	}
}

// askingLines returns what the lines do that ask for something, by their forms.
func askingLines() map[string]lineCall {
	type desk = impl.Desk
	return map[string]lineCall{
		"run":       tellsNumber(func(d desk, w lineWords) (int, bool) { return impl.RunOf(d.Pieces) }),
		"both":      tellsNumber(func(d desk, w lineWords) (int, bool) { return impl.RunBoth(d.Pieces) }),
		"ways N":    tellsNumber(func(d desk, w lineWords) (int, bool) { return impl.WaysOf(d.Pieces, w.n) }),
		"way N":     tellsList(func(d desk, w lineWords) ([]int, bool) { return impl.FirstWay(d.Pieces, w.n) }),
		"gaps":      tellsList(func(d desk, w lineWords) ([]int, bool) { return impl.GapsOf(d.Pieces) }),
		"moves N K": tellsNumber(func(d desk, w lineWords) (int, bool) { return impl.FewestMoves(d.Pieces, w.n, w.k) }),
		"days N":    tellsNumber(func(d desk, w lineWords) (int, bool) { return impl.DaysPaid(d.Pieces, w.n) }),
		"lengths":   tellsList(func(d desk, w lineWords) ([]int, bool) { return impl.LengthsOf(d.Ruler) }),
		"lack":      tellsList(func(d desk, w lineWords) ([]int, bool) { return impl.MissingLengths(d.Ruler) }),
		"side N":    tellsText(func(d desk, w lineWords) (string, bool) { return impl.FirstBoth(d.Pieces, w.n) }),
		"bal N":     tellsText(func(d desk, w lineWords) (string, bool) { return impl.BalancedOf(w.n) }),
		"num S":     tellsNumber(func(d desk, w lineWords) (int, bool) { return impl.NumberOfSigns(w.sign) }),
		"plan N": tellsText(func(d desk, w lineWords) (string, bool) {
			plan, ok := impl.PlanOfRun(d.Pieces, w.n)
			if !ok {
				return "", false
			}
			return impl.PlanText(d.Pieces, plan)
		}),
	}
}

// letterPatterns are what the words look like that stand at the letters of a form, whatever numbers are in them.
var letterPatterns = map[string]string{
	"N": `(?P<N>0|[1-9][0-9]{0,5})`,
	"K": `(?P<K>0|[1-9][0-9]{0,5})`,
	"S": `(?P<S>0|[+-][+0-]{0,12})`,
	"P": `(?P<P>[0-9]+(?:\+[0-9]+)*)`,
	"R": `(?P<R>[0-9]+(?:\|[0-9]+)*)`,
}

// consoleLine is a line of the table: what it looks like, and what it does.
type consoleLine struct {
	form    string
	pattern *regexp.Regexp
	call    lineCall
}

// consoleLines are all lines of the table, in the order of their forms.
var consoleLines = readTable()

func readTable() []consoleLine {
	lines := []consoleLine{}
	for _, calls := range []map[string]lineCall{changingLines(), askingLines()} {
		for form, call := range calls {
			pattern := regexp.MustCompile(`[A-Z]`).ReplaceAllStringFunc(form, func(letter string) string { return letterPatterns[letter] })
			lines = append(lines, consoleLine{form, regexp.MustCompile(`\A` + pattern + `\z`), call})
		}
	}
	slices.SortFunc(lines, func(a, b consoleLine) int { return strings.Compare(a.form, b.form) })
	return lines
}

// wordsOf returns what the words of a line tell, of which the pattern is that of the line. It fails if pieces or marks are none.
func wordsOf(pattern *regexp.Regexp, line string) (w lineWords, ok bool) {
	ok = true
	words := pattern.FindStringSubmatch(line)
	for i, letter := range pattern.SubexpNames() {
		switch letter {
		case "N":
			w.n, _ = strconv.Atoi(words[i])
		case "K":
			w.k, _ = strconv.Atoi(words[i])
		case "S":
			w.sign = words[i]
		case "P":
			w.list, ok = impl.ParsePieces(words[i])
		case "R":
			w.list, ok = impl.ParseRuler(words[i])
		}
	}
	return w, ok
}

// lineBySearch returns the desk behind a line and the reply, by the calls that the line names.
func lineBySearch(d impl.Desk, line string) (impl.Desk, string) {
	for _, l := range consoleLines {
		if !l.pattern.MatchString(line) {
			continue
		}
		w, ok := wordsOf(l.pattern, line)
		if !ok {
			return d, "what"
		}
		after, reply, ok := l.call(d, w)
		if !ok {
			return d, "no"
		}
		return after, reply
	}
	return d, "what"
}

// deskWith returns the desk with these texts, whatever numbers are in them.
func deskWith(pieces, ruler string) impl.Desk {
	d := impl.Desk{}
	if pieces != "0" {
		d.Pieces = splitNumbers(pieces, "+")
	}
	d.Ruler = splitNumbers(ruler, "|")
	return d
}

func splitNumbers(text, between string) []int {
	list := []int{}
	for _, word := range strings.Split(text, between) {
		n, err := strconv.Atoi(word)
		if err != nil {
			panic(text)
		}
		list = append(list, n)
	}
	return list
}

// textOfTimes returns a number so many times, with a sign between.
func textOfTimes(n, times int, between string) string {
	return textWith(repeated(n, times), between)
}

// namedDesks returns desks, for each line of the table one at least for which it fails if it can.
func namedDesks() []impl.Desk {
	return []impl.Desk{
		deskWith("1+2+4", "0|1|4|6"), deskWith("0", "0|1"), deskWith("1", "0|60"), deskWith("10000", "0|5"), deskWith("1+3+9", "0|5|6"), deskWith("1+3+3", "0|2|5|6"), deskWith("1+1+2+3", "0|1|4|9|11"),
		{Pieces: doubled(8), Ruler: allMarks(60)}, {Pieces: repeated(1, 9), Ruler: allMarks(2)}, {Pieces: repeated(3, 12), Ruler: []int{0, 30, 60}}, {Pieces: repeated(2, 13), Ruler: []int{0, 2}},
		{Pieces: repeated(1, 20), Ruler: []int{0, 1}}, {Pieces: repeated(10000, 20), Ruler: allMarks(20)}, {Pieces: doubled(14), Ruler: []int{0, 59, 60}},
		deskWith("1001", "0|1|2"), deskWith("1002", "0|2|4"), deskWith("1+2+4+8+16+29", "0|3"), deskWith("4999+5001", "0|7"), deskWith("5000+5001", "0|8|9"),
	}
}

func isSameDesk(a, b impl.Desk) bool {
	return slices.Equal(a.Pieces, b.Pieces) && slices.Equal(a.Ruler, b.Ruler)
}

// lineName returns a name for a call, which is not too long whatever the desk and the line are.
func lineName(d impl.Desk, line string) string {
	const most = 80
	if len(line) > most {
		line = line[:most] + ".."
	}
	pieces, ruler := d.Pieces[:min(len(d.Pieces), most)], d.Ruler[:min(len(d.Ruler), most)]
	return "DeskLine of " + textWith(pieces, "+") + " and " + textWith(ruler, "|") + " and " + strconv.Quote(line)
}

func wantDesk(t *testing.T, name string, got impl.Desk, ok bool, want impl.Desk) {
	t.Helper()
	if !ok || !isSameDesk(got, want) {
		t.Errorf("%s: got %v, %v; want %v, true", name, got, ok, want)
	}
}

func wantNoDesk(t *testing.T, name string, got impl.Desk, ok bool) {
	t.Helper()
	if ok || len(got.Pieces) != 0 || len(got.Ruler) != 0 {
		t.Errorf("%s: got %v, %v; want none, false", name, got, ok)
	}
}

// wantReply executes a line, of which the desk behind it and the reply are told.
func wantReply(t *testing.T, d impl.Desk, line string, after impl.Desk, reply string) {
	t.Helper()
	got, told, ok := impl.DeskLine(d, line)
	wantText(t, lineName(d, line), told, ok, reply)
	wantDesk(t, lineName(d, line), got, ok, after)
}

func wantNoReply(t *testing.T, d impl.Desk, line string) {
	t.Helper()
	got, told, ok := impl.DeskLine(d, line)
	wantNoText(t, lineName(d, line), told, ok)
	wantNoDesk(t, lineName(d, line), got, ok)
}

func wantTexts(t *testing.T, name string, got []string, ok bool, want []string) {
	t.Helper()
	if !ok || !slices.Equal(got, want) {
		t.Errorf("%s: got %q, %v; want %q, true", name, got, ok, want)
	}
}

// wantNoScript checks that a text is no script for any of the functions.
func wantNoScript(t *testing.T, s string) {
	t.Helper()
	name := strconv.Quote(s[:min(len(s), 80)])
	replies, ok := impl.RunScript(s)
	if ok || len(replies) != 0 {
		t.Errorf("RunScript %s: got %q, %v; want none, false", name, replies, ok)
	}
	d, ok := impl.DeskAfter(s)
	wantNoDesk(t, "DeskAfter "+name, d, ok)
	numbers, ok := impl.FailedLines(s)
	wantNoList(t, "FailedLines "+name, numbers, ok)
}
