package tests

import (
	"slices"
	"strings"
	"testing"

	"loop.example/g01305/impl"
)

// lineTold is a line on the desk with some pieces or a ruler, and its reply.
type lineTold struct{ on, line, reply string }

func ten(times int) string { return textOfTimes(10000, times, "+") }

func TestLinesThatSetThePieces(t *testing.T) {
	const ruler = "0|1|4|6"
	for _, c := range []lineTold{
		{"1+2+4", "pieces 1+3+9", "1+3+9"}, {"1+2+4", "pieces 0", "0"}, {"1+2+4", "pieces 1", "1"}, {"0", "pieces 10000", "10000"}, {"0", "pieces 7+7", "7+7"}, {"1", "pieces 1", "1"},
		{"1+2+4", "pieces " + ten(20), ten(20)}, {ten(20), "pieces 1+2", "1+2"},
		{"1+2+4", "add 3", "1+2+3+4"}, {"1+2+4", "add 1", "1+1+2+4"}, {"1+2+4", "add 4", "1+2+4+4"}, {"1+2+4", "add 10000", "1+2+4+10000"}, {"0", "add 5", "5"}, {"2", "add 1", "1+2"}, {ten(19), "add 1", "1+" + ten(19)},
		{"1+2+4", "out 2", "1+4"}, {"1+2+4", "out 1", "2+4"}, {"1+2+4", "out 4", "1+2"}, {"1", "out 1", "0"}, {"2+2", "out 2", "2"}, {ten(20), "out 10000", ten(19)},
		{"1+2+4", "next", "1+2+4+8"}, {"0", "next", "1"}, {"2+2", "next", "1+2+2"}, {"1+3+3", "next", "1+2+3+3"}, {"1+3", "next", "1+2+3"}, {ten(19), "next", "1+" + ten(19)},
		{textWith(doubled(14), "+"), "next", textWith(doubled(14), "+") + "+10000"},
		{"1+2+4", "least 0", "0"}, {"0", "least 1", "1"}, {"5", "least 2", "1+1"}, {"0", "least 7", "1+2+4"}, {"0", "least 10", "1+2+3+4"}, {"0", "least 60", "1+2+4+8+16+29"}, {ten(20), "least 3", "1+2"},
		{"1+2+4", "show", "1+2+4"}, {"0", "show", "0"}, {ten(20), "show", ten(20)},
	} {
		wantReply(t, deskWith(c.on, ruler), c.line, deskWith(c.reply, ruler), c.reply)
	}
}

func TestLinesThatSetTheRuler(t *testing.T) {
	const pieces = "1+2+4"
	all := textWith(allMarks(60), "|")
	for _, c := range []lineTold{
		{"0|1|4|6", "ruler 0|1", "0|1"}, {"0|1|4|6", "ruler 0|60", "0|60"}, {"0|1", "ruler " + all, all}, {all, "ruler 0|2|5", "0|2|5"}, {"0|1", "ruler 0|1", "0|1"},
		{"0|1|4|6", "mark 2", "0|1|2|4|6"}, {"0|1|4|6", "mark 5", "0|1|4|5|6"}, {"0|2", "mark 1", "0|1|2"}, {"0|60", "mark 59", "0|59|60"},
		{"0|1|4|6", "wipe 1", "0|4|6"}, {"0|1|4|6", "wipe 4", "0|1|6"}, {"0|1|2", "wipe 1", "0|2"}, {"0|59|60", "wipe 59", "0|60"},
		{"0|1|4|6", "turn", "0|2|5|6"}, {"0|1", "turn", "0|1"}, {"0|59|60", "turn", "0|1|60"}, {all, "turn", all},
		{"0|60", "first 1", "0|1"}, {"0|1", "first 2", "0|1|2"}, {"0|1", "first 6", "0|1|4|6"}, {"0|1", "first 7", "0|1|2|3|7"}, {all, "first 13", "0|1|2|6|10|13"}, {"0|1", "first 20", "0|1|2|3|4|10|15|20"},
		{"0|1|4|6", "marks", "0|1|4|6"}, {"0|1", "marks", "0|1"}, {all, "marks", all},
	} {
		wantReply(t, deskWith(pieces, c.on), c.line, deskWith(pieces, c.reply), c.reply)
	}
}

func TestLinesThatAskAboutPieces(t *testing.T) {
	for _, c := range []lineTold{
		{"1+2+4", "run", "7"}, {"0", "run", "0"}, {"2", "run", "0"}, {"1+3+3", "run", "1"}, {textWith(doubled(14), "+"), "run", "16383"}, {ten(20), "run", "0"},
		{"1+2+4", "both", "7"}, {"1+3+9", "both", "13"}, {"0", "both", "0"}, {"10000", "both", "0"}, {"1+9999", "both", "1"}, {textOfTimes(500, 20, "+"), "both", "0"},
		{"1+3+3", "ways 4", "2"}, {"1+3+3", "ways 5", "0"}, {"0", "ways 0", "1"}, {"0", "ways 1", "0"}, {textOfTimes(1, 20, "+"), "ways 10", "184756"}, {ten(20), "ways 200000", "1"}, {"1", "ways 200000", "0"},
		{"1+2+4", "way 5", "0,2"}, {"1+2+4", "way 2", "1"}, {"1+2+4", "way 0", "-"}, {"0", "way 0", "-"}, {"1+3+3", "way 4", "0,1"}, {ten(20), "way 200000", "0,1,2,3,4,5,6,7,8,9,10,11,12,13,14,15,16,17,18,19"},
		{"1+2+4", "gaps", "-"}, {"0", "gaps", "-"}, {"2", "gaps", "1"}, {"1+3+3", "gaps", "2,5"}, {"1001", "gaps", textWith(firstNumbers(1001)[1:], ",")},
		{"1+2+4", "plan 7", "+1/+2-1/+1/+4-1-2/+1/+2-1/+1"}, {"1+2+4", "plan 1", "+1"}, {"1+2+4", "plan 2", "+1/+2-1"}, {"1+2+4", "plan 0", "-"}, {"0", "plan 0", "-"}, {textOfTimes(1, 8, "+"), "plan 3", "+1/+1/+1"},
		{textWith(repeated(10000, 8), "+"), "plan 0", "-"},
		{"1+2+4", "moves 7 1", "11"}, {"1+2+4", "moves 3 2", "4"}, {"1+2+4", "moves 0 1", "0"}, {"0", "moves 0 100", "0"}, {"100", "moves 1 100", "1"}, {"1+2+2+3", "moves 2 2", "2"}, {textOfTimes(1, 8, "+"), "moves 8 1", "8"},
		{"1+2+4", "days 2", "3"}, {"1+2+4", "days 1", "7"}, {"1+2+4", "days 7", "1"}, {"1+2+4", "days 8", "0"}, {"1+2+4", "days 100", "0"}, {"100+100", "days 100", "2"}, {"0", "days 1", "0"}, {"1+2+4+8+16+29", "days 1", "60"}, {"1+2+4+8+16+32", "days 1", "60"},
		{"1+3+9", "side 5", "--+"}, {"1+3+9", "side 13", "+++"}, {"1+3+9", "side 0", "000"}, {"0", "side 0", "-"}, {"1", "side 1", "+"}, {"1", "side 0", "0"}, {"1+1", "side 0", "+-"}, {textWith(doubled(12), "+"), "side 4095", "++++++++++++"},
	} {
		d := deskWith(c.on, "0|1|4|6")
		wantReply(t, d, c.line, d, c.reply)
	}
}

func TestLinesThatAskAboutRulersAndDigits(t *testing.T) {
	for _, c := range []lineTold{
		{"0|1|4|6", "lengths", "1,2,3,4,5,6"}, {"0|1", "lengths", "1"}, {"0|60", "lengths", "60"}, {"0|5|6", "lengths", "1,5,6"},
		{"0|1|4|6", "lack", "-"}, {"0|1", "lack", "-"}, {"0|2", "lack", "1"}, {"0|5|6", "lack", "2,3,4"}, {"0|1|4|9|11", "lack", "6"}, {"0|60", "lack", textWith(firstNumbers(60)[1:], ",")},
		{"0|1", "bal 0", "0"}, {"0|1", "bal 1", "+"}, {"0|1", "bal 2", "+-"}, {"0|1", "bal 5", "+--"}, {"0|1", "bal 13", "+++"}, {"0|1", "bal 797161", "+++++++++++++"}, {"0|1", "bal 797162", "+-------------"}, {"0|1", "bal 999999", "+-0-0-++-+-000"},
		{"0|1", "num 0", "0"}, {"0|1", "num +", "1"}, {"0|1", "num -", "-1"}, {"0|1", "num -++", "-5"}, {"0|1", "num +--", "5"}, {"0|1", "num +0", "3"}, {"0|1", "num -0", "-3"}, {"0|1", "num +0-", "8"},
		{"0|1", "num +++++++++++++", "797161"}, {"0|1", "num -------------", "-797161"}, {"0|1", "num +000000000000", "531441"}, {"0|1", "num -000000000000", "-531441"}, {"0|1", "num +------------", "265721"},
	} {
		d := deskWith("1+2+4", c.on)
		wantReply(t, d, c.line, d, c.reply)
	}
}

func TestLinesWithCallsThatFail(t *testing.T) {
	great := []string{"999999"}
	for _, c := range []struct {
		pieces, ruler, first string
		words                []string
	}{
		{"1+2+4", "0|1|4|6", "add", append(great, "0", "10001")}, {ten(20), "0|1", "add", append(great, "0", "1", "10000", "10001")}, {textOfTimes(1, 20, "+"), "0|1", "add", []string{"1"}},
		{"1+2+4", "0|1|4|6", "out", append(great, "0", "3", "5", "9", "10000", "10001")}, {"0", "0|1", "out", append(great, "0", "1", "10000")},
		{"0", "0|1|4|6", "least", append(great, "61", "62", "100")},
		{"0", "0|1|4|6", "mark", append(great, "0", "1", "4", "6", "7", "60", "61")}, {"0", "0|1", "mark", append(great, "0", "1", "2")}, {"0", "0|60", "mark", []string{"0", "60", "61"}},
		{"0", "0|1|4|6", "wipe", append(great, "0", "6", "2", "3", "5", "7")}, {"0", "0|1", "wipe", append(great, "0", "1", "2")}, {"0", "0|60", "wipe", []string{"0", "30", "60", "61"}},
		{"0", "0|1|4|6", "first", append(great, "0", "21", "22", "60")},
		{"1+2+4", "0|1", "ways", append(great, "200001")}, {ten(20), "0|1", "ways", append(great, "200001")},
		{"1+2+4", "0|1", "way", append(great, "8", "200000", "200001")}, {"0", "0|1", "way", append(great, "1", "200001")}, {"1+3+3", "0|1", "way", []string{"2", "5", "8"}}, {ten(20), "0|1", "way", []string{"1", "9999", "200001"}},
		{"1+2+4", "0|1", "plan", append(great, "8", "60", "61")}, {"0", "0|1", "plan", []string{"1", "61"}}, {textWith(doubled(8), "+"), "0|1", "plan", append(great, "61")}, {textOfTimes(1, 9, "+"), "0|1", "plan", []string{"0", "1", "9"}},
		{"1+2+4", "0|1", "moves", []string{"8 1", "4 2", "61 1", "60 1", "0 0", "1 0", "0 101", "1 101", "999999 1", "1 999999", "999999 999999"}}, {"0", "0|1", "moves", []string{"1 1", "0 0", "0 101"}},
		{textWith(doubled(8), "+"), "0|1", "moves", []string{"61 1", "60 5", "1 0", "1 101"}}, {textOfTimes(1, 9, "+"), "0|1", "moves", []string{"0 1", "1 1", "9 1", "0 0"}},
		{"1+2+4", "0|1", "days", append(great, "0", "101")}, {"0", "0|1", "days", append(great, "0", "101")}, {textOfTimes(1, 9, "+"), "0|1", "days", append(great, "0", "1", "100")},
		{"1+3+9", "0|1", "side", append(great, "14")}, {"0", "0|1", "side", append(great, "1")}, {"1+1", "0|1", "side", []string{"3"}}, {"2+2", "0|1", "side", []string{"1", "3", "5"}}, {textOfTimes(1, 13, "+"), "0|1", "side", append(great, "0", "1", "13")},
	} {
		for _, word := range c.words {
			d := deskWith(c.pieces, c.ruler)
			wantReply(t, d, c.first+" "+word, d, "no")
		}
	}
	for _, c := range []lineTold{
		{ten(20), "next", "no"}, {textOfTimes(1, 20, "+"), "next", "no"}, {"1+10000", "both", "no"}, {ten(20), "both", "no"}, {"1002", "gaps", "no"}, {"10000", "gaps", "no"}, {ten(20), "gaps", "no"},
	} {
		d := deskWith(c.on, "0|1|4|6")
		wantReply(t, d, c.line, d, c.reply)
	}
}

// goodWords are words that may stand at the letters of a form.
var goodWords = map[string]string{"N": "1", "K": "1", "P": "1+2", "R": "0|1", "S": "+"}

// badWords are words that may not stand there.
func badWords() map[string][]string {
	numbers := []string{"", "1000000", "1000001", "9999999", "00", "01", "000001", "0999999", "+1", "-1", "+0", "-0", "1+1", "1|1", "1.0", "1,0", "1_0", "0x1", "1e3", "a", "1a", "a1", "\t1", "1\t", "1\r", "1\x00", "\xff", "１", "12345678901234567890", "18446744073709551617", "-9223372036854775808", "9223372036854775807", "N", "+", "0|1"}
	return map[string][]string{
		"N": numbers, "K": numbers,
		"P": {"", "00", "01", "1+02", "01+2", "2+1", "1+3+2", "1+", "+1", "+", "1++2", "1+2+", "0+1", "1+0", "0+0", "10001", "1+10001", "100000", "-1", "1+-2", "1-2", "1|2", "1,2", "1.2", "0|1", "a", "1+a", "1+2a", "1+2\r", "1+\t2", "1\x00", "1\xff", "１", "P",
			"12345678901234567890", "1+12345678901234567890", textOfTimes(1, 21, "+"), ten(21), textOfTimes(1, 1000, "+")},
		"R": {"", "0", "1", "1|2", "0|0", "0|1|1", "0|2|1", "0|61", "0|1|61", "0|100", "0|", "|1", "|", "0||1", "0|1|", "00|1", "0|01", "0|+1", "0|-1", "-1|0", "0+1", "0,1", "0|a", "0|1a", "0|1\r", "0|\t1", "0|1\x00", "0|\xff", "0|１", "R",
			"0|12345678901234567890", textWith(allMarks(61), "|"), textWith(append(allMarks(60), 60), "|"), textOfTimes(0, 1000, "|")},
		"S": {"", "00", "0+", "0-", "0-++", "000", "+1", "1", "2", "a", "+a", "+-a", "+\t", "+\r", "\t+", "+\x00", "\x00+", "\xff", "+\xff", "＋", "+−", "S", "+|-", "+,-",
			strings.Repeat("+", 14), strings.Repeat("-", 14), "+" + strings.Repeat("0", 13), "0" + strings.Repeat("+", 12), "0" + strings.Repeat("+", 13), strings.Repeat("0", 14), strings.Repeat("+-", 50)},
	}
}

// formsWith returns the words of each form, each with a good word for each letter.
func formsWith() [][]string {
	forms := [][]string{}
	for _, l := range consoleLines {
		words := strings.Split(l.form, " ")
		for i, letter := range words[1:] {
			words[i+1] = goodWords[letter]
		}
		forms = append(forms, words)
	}
	return forms
}

// someDesks are desks on which each line succeeds or fails.
func someDesks() []impl.Desk {
	return []impl.Desk{deskWith("1+2+4", "0|1|4|6"), deskWith("0", "0|1"), deskWith(ten(20), "0|60")}
}

func wantWhat(t *testing.T, line string) {
	t.Helper()
	for _, d := range someDesks() {
		wantReply(t, d, line, d, "what")
	}
}

func TestWordsThatTellNothing(t *testing.T) {
	bad := badWords()
	for _, l := range consoleLines {
		for i, letter := range strings.Split(l.form, " ") {
			for _, word := range bad[letter] {
				words := formsWith()[slices.IndexFunc(consoleLines, func(other consoleLine) bool { return other.form == l.form })]
				words[i] = word
				wantWhat(t, strings.Join(words, " "))
			}
		}
	}
	wantWhat(t, "moves a 0")
	wantWhat(t, "moves 61 a")
	wantWhat(t, "moves 1000000 1000000")
}

func TestTooFewAndTooManyWords(t *testing.T) {
	for _, words := range formsWith() {
		whole := strings.Join(words, " ")
		for count := 1; count < len(words); count++ {
			few := strings.Join(words[:count], " ")
			wantWhat(t, few)
			wantWhat(t, few+" ")
		}
		for _, more := range []string{" ", "  ", " 1", " 0", " a", " 1+2", " 0|1", " +", " " + whole, " 1 1", " 1 1 1"} {
			wantWhat(t, whole+more)
		}
		wantWhat(t, " "+whole)
		wantWhat(t, "  "+whole)
		wantWhat(t, " "+whole+" ")
		wantWhat(t, "1 "+whole)
		if len(words) > 1 {
			wantWhat(t, strings.Join(words, "  "))
		}
	}
	for _, line := range []string{"", " ", "  ", strings.Repeat(" ", longestScript), "pieces ", "ruler ", "moves 1", "moves 1 ", "moves  1", "moves 1  1", "moves 1 1 1"} {
		wantWhat(t, line)
	}
}

func TestFirstWordsThatThereAreNot(t *testing.T) {
	for _, words := range formsWith() {
		first := words[0]
		for _, other := range []string{strings.ToUpper(first), strings.ToUpper(first[:1]) + first[1:], first[:len(first)-1] + strings.ToUpper(first[len(first)-1:]), first[1:], first + first, first + "s ", first + "x", "x" + first, first + ".", first + ":", "\t" + first, first + "\t", first + "\r", "\r" + first,
			"\x00" + first, first + "\x00", first[:1] + "\x00" + first[1:], first + "\xff", "\xc3" + first, "ü" + first, first[:1] + "ü", "\ufeff" + first, first + "\u00a0", "\u3000" + first} {
			wantWhat(t, strings.Join(append([]string{other}, words[1:]...), " "))
		}
		if len(words) > 1 {
			for _, between := range []string{"\t", "\r", "\x00", "\u00a0", "", ",", "+", "=", ": "} {
				wantWhat(t, strings.Join(words, between))
			}
		}
		wantWhat(t, strings.Join(words, " ")+"\r")
		wantWhat(t, strings.Join(words, " ")+"\x00")
		wantWhat(t, strings.Join(words, " ")+"\xff")
	}
	for _, line := range []string{"fly", "no", "what", "-", "0", "1+2+4", "0|1|4|6", "P", "N", "add N", "pieces P", "ruler R", "num S", "moves N K", "take 1", "put 1", "sums", "lengths R", "\x00", "\xff", "ä", "help", "quit"} {
		wantWhat(t, line)
	}
}

// The least and the greatest number are words; whether there is such a sum, or such a mark, is another thing.
func TestNumbersAtTheirBounds(t *testing.T) {
	for _, words := range formsWith() {
		if len(words) == 1 || words[1] != "1" {
			continue
		}
		for _, number := range []string{"0", "999999"} {
			line := words[0] + " " + number + strings.Repeat(" 1", len(words)-2)
			for _, d := range someDesks() {
				after, reply := lineBySearch(d, line)
				if reply == "what" {
					t.Error(line, "is none")
				}
				wantReply(t, d, line, after, reply)
			}
		}
	}
}

func TestScriptsAtTheirLimits(t *testing.T) {
	replies, ok := impl.RunScript("")
	wantTexts(t, "RunScript of the empty script", replies, ok, nil)
	d, ok := impl.DeskAfter("")
	wantDesk(t, "DeskAfter of the empty script", d, ok, deskWith("1+2+4", "0|1|4|6"))
	numbers, ok := impl.FailedLines("")
	wantList(t, "FailedLines of the empty script", numbers, ok, nil)
	checkScript(t, "\n", []string{""})
	checkScript(t, "\n\n", []string{"", ""})
	checkScript(t, "\nrun\n", []string{"", "run"})
	checkScript(t, "run\r\n", []string{"run\r"})
	checkScript(t, strings.Repeat("\n", mostLines), make([]string, mostLines))
	checkScript(t, strings.Repeat("next\n", mostLines), slices.Repeat([]string{"next"}, mostLines))
	wantNoScript(t, strings.Repeat("\n", mostLines+1))
	wantNoScript(t, strings.Repeat("next\n", mostLines+1))
	wantNoScript(t, strings.Repeat("run\n", mostLines)+"run")
	wantNoScript(t, strings.Repeat("run\n", 700))
	long := strings.Repeat("a", longestScript-1)
	checkScript(t, long+"\n", []string{long})
	checkScript(t, "add 3\n"+long[6:]+"\n", []string{"add 3", long[6:]})
	checkScript(t, long[:longestScript-8]+"\nadd 3\n", []string{long[:longestScript-8], "add 3"})
	sixty := strings.Repeat(" ", 59)
	checkScript(t, strings.Repeat(sixty+"\n", mostLines), slices.Repeat([]string{sixty}, mostLines))
	wantNoScript(t, long+"a\n")
	wantNoScript(t, "\n"+long+"\n")
	wantNoScript(t, strings.Repeat(sixty+"\n", mostLines-1)+sixty+" \n")
	wantNoScript(t, strings.Repeat("run\n", 10)+long[:longestScript-40]+"\n")
	wantNoScript(t, strings.Repeat(long, 1000)+"\n")
}

func TestTextsThatAreNoScripts(t *testing.T) {
	for _, s := range []string{"run", " ", "a", "\r", "\x00", "\xff", "run\nrun", "\nrun", "run\n ", "run\n\x00", "run\n\r", "run\nrun\nrun", "run\r", strings.Repeat("a", longestScript), strings.Repeat("a", longestScript+1)} {
		wantNoScript(t, s)
	}
}

func TestLinesAtTheirLimits(t *testing.T) {
	long := strings.Repeat("a", longestScript)
	wantWhat(t, long)
	wantWhat(t, "run "+long[4:])
	wantWhat(t, "bal "+strings.Repeat("1", longestScript-4))
	wantWhat(t, "pieces 1"+strings.Repeat("+1", longestScript/2-4))
	wantWhat(t, "ruler 0"+strings.Repeat("|1", longestScript/2-4)+" ")
	for _, d := range someDesks() {
		for _, line := range []string{long + "a", long + long, "run" + strings.Repeat(" ", longestScript-2), "\n", "run\n", "\nrun", "run\nrun", "run\r\n", "fly\n", "add 3\n", "add\n3", long[1:] + "\n", long + "\n"} {
			wantNoReply(t, d, line)
		}
	}
}

// piecesThatAreNone returns lists that are no pieces.
func piecesThatAreNone() [][]int {
	return [][]int{{0}, {-1}, {10001}, {2, 1}, {1, 0}, {0, 1}, {1, 2, 10001}, repeated(1, 21), repeated(10001, 20), {-9223372036854775808}, {9223372036854775807}}
}

// rulersThatAreNone returns lists that are no rulers.
func rulersThatAreNone() [][]int {
	return [][]int{nil, {}, {0}, {1}, {1, 2}, {0, 0}, {0, 61}, {0, 2, 1}, {0, 1, 1}, {-1, 0}, {-1, 0, 1}, {0, -1}, allMarks(61), {0, 9223372036854775807}, {0, -9223372036854775808}}
}

func TestDesks(t *testing.T) {
	for _, d := range append(namedDesks(), impl.FirstDesk(), impl.Desk{Pieces: nil, Ruler: []int{0, 1}}, impl.Desk{Pieces: []int{}, Ruler: []int{0, 1}}) {
		if !impl.IsDesk(d) {
			t.Error("IsDesk does not take", d)
		}
		wantReply(t, d, "show", d, textWithPieces(d.Pieces))
		wantReply(t, d, "marks", d, textWith(d.Ruler, "|"))
		wantReply(t, d, "fly", d, "what")
		wantReply(t, d, "add 0", d, "no")
		wantReply(t, d, "bal 2", d, "+-")
	}
}

func textWithPieces(list []int) string {
	if len(list) == 0 {
		return "0"
	}
	return textWith(list, "+")
}

func TestDesksThatAreNone(t *testing.T) {
	none := []impl.Desk{{}, {Pieces: []int{1, 2, 4}}}
	for _, list := range piecesThatAreNone() {
		none = append(none, impl.Desk{Pieces: list, Ruler: []int{0, 1, 4, 6}}, impl.Desk{Pieces: list, Ruler: []int{0, 1}})
		for _, marks := range rulersThatAreNone() {
			none = append(none, impl.Desk{Pieces: list, Ruler: marks})
		}
	}
	for _, marks := range rulersThatAreNone() {
		none = append(none, impl.Desk{Pieces: []int{1, 2, 4}, Ruler: marks}, impl.Desk{Ruler: marks}, impl.Desk{Pieces: repeated(1, 20), Ruler: marks})
	}
	for _, d := range none {
		if impl.IsDesk(d) {
			t.Error("IsDesk takes", d)
		}
		for _, words := range formsWith() {
			wantNoReply(t, d, strings.Join(words, " "))
		}
		for _, line := range []string{"", "fly", "pieces 1+2", "ruler 0|1", "least 3", "first 6", "bal 5", "run\n", strings.Repeat("a", longestScript+1)} {
			wantNoReply(t, d, line)
		}
	}
}
