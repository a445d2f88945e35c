package tests

import (
	"slices"
	"strings"
	"testing"

	"loop.example/g01305/impl"
)

func TestConsoleExamples(t *testing.T) {
	first := deskWith("1+2+4", "0|1|4|6")
	wantDesk(t, "FirstDesk", impl.FirstDesk(), true, first)
	d, script, replies := impl.FirstDesk(), "", []string{}
	for _, c := range []struct{ line, reply, pieces, ruler string }{
		{"run", "7", "1+2+4", "0|1|4|6"},
		{"plan 7", "+1/+2-1/+1/+4-1-2/+1/+2-1/+1", "1+2+4", "0|1|4|6"},
		{"days 2", "3", "1+2+4", "0|1|4|6"},
		{"next", "1+2+4+8", "1+2+4+8", "0|1|4|6"},
		{"add 3", "1+2+3+4+8", "1+2+3+4+8", "0|1|4|6"},
		{"way 5", "0,3", "1+2+3+4+8", "0|1|4|6"},
		{"out 9", "no", "1+2+3+4+8", "0|1|4|6"},
		{"pieces 1+3+9", "1+3+9", "1+3+9", "0|1|4|6"},
		{"side 5", "--+", "1+3+9", "0|1|4|6"},
		{"bal 5", "+--", "1+3+9", "0|1|4|6"},
		{"num -++", "-5", "1+3+9", "0|1|4|6"},
		{"turn", "0|2|5|6", "1+3+9", "0|2|5|6"},
		{"lengths", "1,2,3,4,5,6", "1+3+9", "0|2|5|6"},
		{"wipe 2", "0|5|6", "1+3+9", "0|5|6"},
		{"lack", "2,3,4", "1+3+9", "0|5|6"},
		{"least 0", "0", "0", "0|5|6"},
		{"gaps", "-", "0", "0|5|6"},
		{"ruler 1|2", "what", "0", "0|5|6"},
		{"fly", "what", "0", "0|5|6"},
	} {
		after := deskWith(c.pieces, c.ruler)
		wantReply(t, d, c.line, after, c.reply)
		d, script, replies = after, script+c.line+"\n", append(replies, c.reply)
	}
	told, ok := impl.RunScript(script)
	wantTexts(t, "RunScript of the example", told, ok, replies)
	after, ok := impl.DeskAfter(script)
	wantDesk(t, "DeskAfter of the example", after, ok, d)
	numbers, ok := impl.FailedLines(script)
	wantList(t, "FailedLines of the example", numbers, ok, []int{7, 18, 19})
}

// wordsToTry returns words of all kinds, and words that are of none.
func wordsToTry() []string {
	return []string{
		"", "0", "1", "2", "3", "4", "5", "6", "7", "8", "9", "13", "20", "21", "59", "60", "61", "100", "101", "1001", "10000", "10001", "200000", "200001", "999999", "1000000",
		"00", "01", "+1", "-1", "-0", "1a", "a", "12345678901234567890", "N", "P",
		"1+2", "1+2+4+8+16+29", "1+1+1", "2+1", "1+", "1++2", "10000+10000", "1+0", "0+1", textOfTimes(1, 20, "+"), textOfTimes(1, 21, "+"),
		"0|1", "0|60", "0|61", "0|1|4|6", "0|0", "0|6|4", "1|2", "0|", "|1", "0||1", "0|01",
		"+", "-", "+-0", "0+", "++++++++++++++", "-------------", "+0x",
	}
}

// linesToTry returns for a form the lines with all words behind its first one that are tried, and with more and fewer of them.
func linesToTry(form string) []string {
	first, _, _ := strings.Cut(form, " ")
	lines := []string{first, " " + first, first + first, strings.ToUpper(form), form}
	few := []string{"", "0", "1", "2", "7", "60", "61", "100", "101", "999999", "1000000", "01", "-1", "a", "1+2", "0|1", "+"}
	for _, word := range wordsToTry() {
		lines = append(lines, first+" "+word, first+"  "+word, first+" "+word+" ", " "+first+" "+word, word, word+" "+first)
	}
	for _, a := range few {
		for _, b := range few {
			lines = append(lines, first+" "+a+" "+b)
		}
		lines = append(lines, first+" "+a+" 1 1", first+" 1 "+a+" 1", first+" 1 1 "+a)
	}
	return lines
}

func TestLinesDoWhatTheCallsDoThatTheyName(t *testing.T) {
	if len(consoleLines) != 25 {
		t.Fatal("the table has", len(consoleLines))
	}
	for _, l := range consoleLines {
		for _, d := range namedDesks() {
			for _, line := range linesToTry(l.form) {
				after, reply := lineBySearch(d, line)
				wantReply(t, d, line, after, reply)
			}
		}
	}
}

// callsThatFail are the forms of the lines for which a call can fail.
var callsThatFail = []string{"add N", "both", "days N", "first N", "gaps", "least N", "mark N", "moves N K", "next", "out N", "plan N", "side N", "way N", "ways N", "wipe N"}

func TestEachLineSucceedsAndFailsSomewhere(t *testing.T) {
	succeed, fail := []string{}, []string{}
	for _, l := range consoleLines {
		replies := map[string]bool{}
		for _, d := range namedDesks() {
			for _, line := range linesToTry(l.form) {
				if l.pattern.MatchString(line) {
					_, reply, _ := impl.DeskLine(d, line)
					replies[reply] = true
				}
			}
		}
		if replies["no"] {
			fail = append(fail, l.form)
		}
		delete(replies, "no")
		delete(replies, "what")
		if len(replies) > 0 {
			succeed = append(succeed, l.form)
		}
	}
	if len(succeed) != 25 || !slices.Equal(fail, callsThatFail) {
		t.Errorf("there are lines that succeed, %q, and that fail, %q", succeed, fail)
	}
}

// scriptOf returns a script with some lines, always the same one for a seed. In most of them some fail.
func scriptOf(count, seed int) (script string, lines []string) {
	pool := []string{
		"pieces 1+3+9", "pieces 0", "pieces 2+1", "ruler 0|1|4|9|11", "ruler 0|60", "ruler 1|2", "add 3", "add 1", "add 0", "add", "out 1", "out 2", "out 9", "out 4", "next", "next 1", "least 7", "least 10", "least 61",
		"mark 2", "mark 3", "mark 6", "wipe 1", "wipe 4", "wipe 0", "turn", "turn ", "first 6", "first 13", "first 0", "show", "marks", "run", "both", "ways 4", "ways 200001", "way 5", "way 8", "way 0",
		"gaps", "plan 3", "plan 0", "plan 61", "moves 3 1", "moves 2 2", "moves 3 0", "moves 3", "days 1", "days 101", "lengths", "lack", "side 2", "side 9", "bal 5", "bal 1000000", "num -++", "num 0+", "fly", "", " ", "RUN", "no", "what",
	}
	z := seed
	for range count {
		z = (z*1103515245 + 12345) % (1 << 31)
		line := pool[z>>8%len(pool)]
		script += line + "\n"
		lines = append(lines, line)
	}
	return script, lines
}

// checkScript compares what is told of a script with what its lines do one after the other.
func checkScript(t *testing.T, script string, lines []string) {
	t.Helper()
	d, replies, failed := impl.FirstDesk(), []string{}, []int{}
	for i, line := range lines {
		after, reply, ok := impl.DeskLine(d, line)
		want, told := lineBySearch(d, line)
		wantText(t, lineName(d, line), reply, ok, told)
		wantDesk(t, lineName(d, line), after, ok, want)
		d, replies = after, append(replies, reply)
		if reply == "no" || reply == "what" {
			failed = append(failed, i+1)
			wantDesk(t, lineName(d, line)+" that fails", after, ok, d)
		}
	}
	name := strings.ReplaceAll(script, "\n", "/")
	got, ok := impl.RunScript(script)
	wantTexts(t, "RunScript "+name, got, ok, replies)
	after, ok := impl.DeskAfter(script)
	wantDesk(t, "DeskAfter "+name, after, ok, d)
	numbers, ok := impl.FailedLines(script)
	wantList(t, "FailedLines "+name, numbers, ok, failed)
}

func TestScriptsDoWhatTheirLinesDo(t *testing.T) {
	for seed := range 400 {
		script, lines := scriptOf(seed%(mostLines+1), seed)
		checkScript(t, script, lines)
	}
}

func TestScriptsInWhichLinesFailBetweenOthers(t *testing.T) {
	for _, c := range []struct {
		lines  []string
		failed []int
		after  impl.Desk
	}{
		{[]string{"add 3"}, nil, deskWith("1+2+3+4", "0|1|4|6")},
		{[]string{"add 0"}, []int{1}, impl.FirstDesk()},
		{[]string{"fly"}, []int{1}, impl.FirstDesk()},
		{[]string{"add 0", "add 3", "add 0"}, []int{1, 3}, deskWith("1+2+3+4", "0|1|4|6")},
		{[]string{"add 3", "out 9", "turn", "fly", "out 1"}, []int{2, 4}, deskWith("2+3+4", "0|2|5|6")},
		{[]string{"out 1", "out 1", "out 2", "out 2", "out 4", "out 4", "next"}, []int{2, 4, 6}, deskWith("1", "0|1|4|6")},
		{[]string{"wipe 1", "wipe 1", "wipe 4", "wipe 6", "mark 3", "mark 3"}, []int{2, 4, 6}, deskWith("1+2+4", "0|3|6")},
		{[]string{"ruler 0|60", "ruler 0|61", "pieces 0", "pieces ", "least 3", "least 61"}, []int{2, 4, 6}, deskWith("1+2", "0|60")},
		{[]string{"", "first 1", "", "pieces 5", ""}, []int{1, 3, 5}, deskWith("5", "0|1")},
		{[]string{"run", "gaps", "lengths", "show", "marks"}, nil, impl.FirstDesk()},
		{[]string{"what", "no", "run", "no"}, []int{1, 2, 4}, impl.FirstDesk()},
	} {
		script := strings.Join(c.lines, "\n") + "\n"
		checkScript(t, script, c.lines)
		numbers, ok := impl.FailedLines(script)
		wantList(t, "FailedLines "+script, numbers, ok, c.failed)
		after, ok := impl.DeskAfter(script)
		wantDesk(t, "DeskAfter "+script, after, ok, c.after)
	}
}
