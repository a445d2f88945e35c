package tests

import (
	"slices"
	"strconv"
	"strings"
	"testing"

	"loop.example/g01305/impl"
)

// anyLines returns lines that succeed or fail, and texts that are no lines.
func anyLines() []string {
	lines := []string{"", " ", "fly", "pieces 0", "pieces 1+3+9", "pieces " + ten(20), "pieces 2+1", "ruler 0|1", "ruler 0|2|5", "ruler 1|2", "add 10000", "out 10000", "least 0", "least 60", "mark 2", "wipe 4", "first 6", "first 20",
		"ways 200000", "way 0", "way 5", "plan 0", "plan 7", "moves 7 1", "days 2", "days 0", "side 0", "side 5", "bal 0", "bal 999999", "num 0", "num -------------", "num -\xff",
		"\n", "run\n", "\nrun", "\x00", "\xff\xfe", "run\x00", "add 9223372036854775808", "add -9223372036854775808", strings.Repeat("a", longestScript), strings.Repeat("a", longestScript+1), strings.Repeat(" ", longestScript), "pieces 1" + strings.Repeat("+1", 1400), strings.Repeat("a", 1<<20)}
	for _, words := range formsWith() {
		lines = append(lines, strings.Join(words, " "), words[0], strings.Join(words, " ")+" ")
	}
	return lines
}

// deskMemory is a desk with memory that goes on behind its lists.
type deskMemory struct {
	pieces, ruler []int
	desk          impl.Desk
}

func deskWithSpare(pieces, ruler []int) deskMemory {
	m := deskMemory{}
	m.pieces, m.desk.Pieces = withSpare(pieces)
	m.ruler, m.desk.Ruler = withSpare(ruler)
	return m
}

// isStill tells whether the memory holds what it did at first.
func (m deskMemory) isStill(pieces, ruler []int) bool {
	other := deskWithSpare(pieces, ruler)
	return slices.Equal(m.pieces, other.pieces) && slices.Equal(m.ruler, other.ruler)
}

// deskLists returns the lists of a desk, each with the memory that it has.
func deskLists(d impl.Desk) [][]int {
	return [][]int{d.Pieces, d.Ruler}
}

func copiedDesk(d impl.Desk) impl.Desk {
	return impl.Desk{Pieces: slices.Clone(d.Pieces), Ruler: slices.Clone(d.Ruler)}
}

func checkDeskLine(t *testing.T, pieces, ruler []int, line string) {
	t.Helper()
	memory := deskWithSpare(pieces, ruler)
	name := lineName(memory.desk, line)
	defer func() {
		if r := recover(); r != nil {
			t.Errorf("%s panics: %v", name, r)
		}
	}()
	after, reply, ok := impl.DeskLine(memory.desk, line)
	if !memory.isStill(pieces, ruler) {
		t.Errorf("%s modifies the desk", name)
	}
	told := copiedDesk(after)
	if ok && !impl.IsDesk(after) {
		t.Errorf("%s returns no desk: %v", name, after)
	}
	fillApart(t, name, deskLists(after))
	if !memory.isStill(pieces, ruler) {
		t.Errorf("%s returns memory of the desk before", name)
	}
	after, again, still := impl.DeskLine(memory.desk, line)
	fillAll(memory.pieces)
	fillAll(memory.ruler)
	if !isSameDesk(after, told) || again != reply || still != ok {
		t.Errorf("%s returns memory of the desk before or of an earlier result", name)
	}
}

func TestNoLinePanicsOrModifies(t *testing.T) {
	for _, line := range anyLines() {
		for _, pieces := range anyLists() {
			checkDeskLine(t, pieces, []int{0, 1, 4, 6}, line)
			checkDeskLine(t, pieces, []int{0, 61}, line)
		}
		for _, ruler := range anyRulers() {
			checkDeskLine(t, []int{1, 2, 4}, ruler, line)
			checkDeskLine(t, []int{2, 1}, ruler, line)
		}
	}
}

func TestIsDeskTakesAllDesksAndModifiesNone(t *testing.T) {
	for _, pieces := range anyLists() {
		for _, ruler := range anyRulers() {
			memory := deskWithSpare(pieces, ruler)
			if impl.IsDesk(memory.desk) != (impl.ArePieces(pieces) && impl.IsRuler(ruler)) {
				t.Error("IsDesk of", pieces, ruler)
			}
			if !memory.isStill(pieces, ruler) {
				t.Error("IsDesk modifies", pieces, ruler)
			}
		}
	}
}

// The lists of a desk may be one memory, or lie one behind the other in it.
func TestDesksWhoseListsAreOneMemory(t *testing.T) {
	for _, line := range anyLines() {
		memory := []int{1, 2, 4, 0, 1, 4, 6, spare, spare}
		before := slices.Clone(memory)
		d := impl.Desk{Pieces: memory[:3], Ruler: memory[3:7]}
		want, told, taken := impl.DeskLine(copiedDesk(d), line)
		after, reply, ok := impl.DeskLine(d, line)
		if !slices.Equal(memory, before) || !isSameDesk(after, want) || reply != told || ok != taken {
			t.Errorf("DeskLine of one memory and %q: got %v, %q, %v", line, after, reply, ok)
		}
		fillApart(t, "DeskLine of one memory and "+strconv.Quote(line), deskLists(after))
		if !slices.Equal(memory, before) {
			t.Errorf("DeskLine of one memory and %q returns memory of the desk before", line)
		}
	}
}

func TestFirstDesksShareNoMemory(t *testing.T) {
	fillApart(t, "FirstDesk", deskLists(impl.FirstDesk()))
	wantDesk(t, "FirstDesk", impl.FirstDesk(), true, deskWith("1+2+4", "0|1|4|6"))
	d, ok := impl.DeskAfter("")
	wantDesk(t, "DeskAfter of the empty script", d, ok, deskWith("1+2+4", "0|1|4|6"))
}

func checkScriptCalls(t *testing.T, s string) {
	t.Helper()
	name := strconv.Quote(s[:min(len(s), 80)])
	defer func() {
		if r := recover(); r != nil {
			t.Errorf("the script %s panics: %v", name, r)
		}
	}()
	replies, isScript := impl.RunScript(s)
	after, ok := impl.DeskAfter(s)
	numbers, told := impl.FailedLines(s)
	if ok != isScript || told != isScript {
		t.Errorf("the calls do not agree whether %s is a script", name)
	}
	texts, d, failed := slices.Clone(replies), copiedDesk(after), slices.Clone(numbers)
	for i := range replies {
		replies[i] = "spare"
	}
	fillApart(t, "DeskAfter "+name, deskLists(after))
	fillAll(numbers)
	replies, _ = impl.RunScript(s)
	after, _ = impl.DeskAfter(s)
	numbers, _ = impl.FailedLines(s)
	if !slices.Equal(replies, texts) || !isSameDesk(after, d) || !slices.Equal(numbers, failed) {
		t.Errorf("a call of the script %s returns memory of an earlier result", name)
	}
}

func TestNoScriptPanics(t *testing.T) {
	for _, line := range anyLines() {
		for _, s := range []string{line, line + "\n", "\n" + line, "add 3\n" + line + "\nturn\n", line + "\n" + line + "\n"} {
			checkScriptCalls(t, s)
		}
	}
	for seed := range 30 {
		script, _ := scriptOf(seed, seed)
		checkScriptCalls(t, script)
	}
}

// All texts of at most so many of the bytes are tried: they are scripts if they are empty or end with a newline.
func TestAllTextsAreTakenAsScripts(t *testing.T) {
	var try func(s string, longest int, signs string)
	try = func(s string, longest int, signs string) {
		replies, ok := impl.RunScript(s)
		if ok != (s == "" || strings.HasSuffix(s, "\n")) || len(replies) > len(s) {
			t.Errorf("RunScript %q: got %q, %v", s, replies, ok)
		}
		if ok {
			lines := strings.Split(s, "\n")
			checkScript(t, s, lines[:len(lines)-1])
		} else {
			wantNoScript(t, s)
		}
		if len(s) == longest {
			return
		}
		for _, b := range []byte(signs) {
			try(s+string([]byte{b}), longest, signs)
		}
	}
	try("", 7, "run\n")
	try("", 5, "run \n\x00\xff")
}

// The texts go on behind a command.
func TestAllTextsAreTakenBehindACommand(t *testing.T) {
	d := deskWith("1+2+4", "0|1|4|6")
	var try func(first, s string, longest int, signs string)
	try = func(first, s string, longest int, signs string) {
		after, reply := lineBySearch(d, first+s)
		wantReply(t, d, first+s, after, reply)
		if len(s) == longest {
			return
		}
		for _, b := range []byte(signs) {
			try(first, s+string([]byte{b}), longest, signs)
		}
	}
	try("add", "", 5, " 0129+-")
	try("moves", "", 6, " 012")
	try("moves 1 ", "", 4, " 019+-a\t")
	try("pieces", "", 6, " 012+")
	try("ruler", "", 6, " 012|")
	try("num", "", 6, " 01+-")
	try("show", "", 4, " 01\t\r\x00")
}
