package tests

import (
	"math"
	"slices"
	"strconv"
	"strings"
	"testing"

	"loop.example/g01305/impl"
)

func TestRulerExamples(t *testing.T) {
	marks, ok := impl.ParseRuler("0|1|4|6")
	wantList(t, "ParseRuler", marks, ok, []int{0, 1, 4, 6})
	lengths, ok := impl.LengthsOf(marks)
	wantList(t, "LengthsOf", lengths, ok, []int{1, 2, 3, 4, 5, 6})
	for n := 1; n <= 6; n++ {
		ways, ok := impl.WaysToMeasure(marks, n)
		wantNumber(t, named("WaysToMeasure", n), ways, ok, 1)
	}
	is, ok := impl.IsComplete(marks)
	wantBool(t, "IsComplete", is, ok, true)
	is, ok = impl.IsSparse(marks)
	wantBool(t, "IsSparse", is, ok, true)
	list, ok := impl.FirstComplete(6)
	wantList(t, "FirstComplete 6", list, ok, marks)
	n, ok := impl.CountComplete(6)
	wantNumber(t, "CountComplete 6", n, ok, 2)
	n, ok = impl.FewestMarks(6)
	wantNumber(t, "FewestMarks 6", n, ok, 4)
	n, ok = impl.FewestMarks(7)
	wantNumber(t, "FewestMarks 7", n, ok, 5)
	n, ok = impl.ShortestSparse(5)
	wantNumber(t, "ShortestSparse 5", n, ok, 11)
	list, ok = impl.FirstSparse(5)
	wantList(t, "FirstSparse 5", list, ok, []int{0, 1, 4, 9, 11})
	list, ok = impl.MissingLengths(list)
	wantList(t, "MissingLengths", list, ok, []int{6})
	list, ok = impl.MirrorRuler(marks)
	wantList(t, "MirrorRuler", list, ok, []int{0, 2, 5, 6})
	list, ok = impl.NeedlessMarks([]int{0, 1, 2, 3})
	wantList(t, "NeedlessMarks", list, ok, []int{1, 2})
}

// checkMeasures compares what a ruler measures with the number of places at which each length can be laid.
func checkMeasures(t *testing.T, marks []int, pairs [longestRuler + 1]int) {
	t.Helper()
	length := slices.Max(marks)
	measured, missing, sparse := []int{}, []int{}, true
	for n := 1; n <= longestRuler; n++ {
		ways, ok := impl.WaysToMeasure(marks, n)
		wantNumber(t, payName("WaysToMeasure", marks, n), ways, ok, pairs[n])
		sparse = sparse && pairs[n] <= 1
		if pairs[n] > 0 {
			measured = append(measured, n)
		} else if n <= length {
			missing = append(missing, n)
		}
	}
	run := length
	if len(missing) > 0 {
		run = missing[0] - 1
	}
	list, ok := impl.LengthsOf(marks)
	wantList(t, payName("LengthsOf", marks), list, ok, measured)
	list, ok = impl.MissingLengths(marks)
	wantList(t, payName("MissingLengths", marks), list, ok, missing)
	is, ok := impl.IsComplete(marks)
	wantBool(t, payName("IsComplete", marks), is, ok, len(missing) == 0)
	is, ok = impl.IsSparse(marks)
	wantBool(t, payName("IsSparse", marks), is, ok, sparse)
	n, ok := impl.RunOfRuler(marks)
	wantNumber(t, payName("RunOfRuler", marks), n, ok, run)
}

func TestRulersMeasureTheDifferencesOfTheirMarks(t *testing.T) {
	for _, marks := range rulerLists() {
		if !impl.IsRuler(marks) {
			t.Error("IsRuler does not take", marks)
		}
		checkMeasures(t, marks, laidPairs(marks))
	}
}

func TestMirroredRulersMeasureTheSame(t *testing.T) {
	for _, marks := range rulerLists() {
		turned := []int{}
		for _, mark := range marks {
			turned = append(turned, slices.Max(marks)-mark)
		}
		slices.Sort(turned)
		mirrored, ok := impl.MirrorRuler(marks)
		wantList(t, payName("MirrorRuler", marks), mirrored, ok, turned)
		checkMeasures(t, mirrored, laidPairs(marks))
		back, ok := impl.MirrorRuler(mirrored)
		wantList(t, payName("MirrorRuler", mirrored), back, ok, marks)
	}
}

// checkAddAndDrop tries to put in and take out a mark, at a place that may be none of the ruler's.
func checkAddAndDrop(t *testing.T, marks []int, at int) {
	t.Helper()
	isMark := slices.Contains(marks, at)
	isInside := 0 < at && at < slices.Max(marks)
	more, ok := impl.AddMark(marks, at)
	if isInside && !isMark {
		all := append(slices.Clone(marks), at)
		slices.Sort(all)
		wantList(t, payName("AddMark", marks, at), more, ok, all)
		back, ok := impl.DropMark(more, at)
		wantList(t, payName("DropMark", more, at), back, ok, marks)
	} else {
		wantNoList(t, payName("AddMark", marks, at), more, ok)
	}
	less, ok := impl.DropMark(marks, at)
	if isInside && isMark {
		i := slices.Index(marks, at)
		wantList(t, payName("DropMark", marks, at), less, ok, slices.Delete(slices.Clone(marks), i, i+1))
	} else {
		wantNoList(t, payName("DropMark", marks, at), less, ok)
	}
}

func TestMarksThatAreAddedAndDropped(t *testing.T) {
	for _, marks := range rulerLists() {
		for at := -2; at <= longestRuler+2; at++ {
			checkAddAndDrop(t, marks, at)
		}
		for _, at := range []int{math.MinInt, -longestRuler, 64, 128, 1 << 32, math.MaxInt} {
			checkAddAndDrop(t, marks, at)
		}
	}
}

func TestMarksBesideTheEnds(t *testing.T) {
	list, ok := impl.AddMark([]int{0, 60}, 1)
	wantList(t, "AddMark beside the first", list, ok, []int{0, 1, 60})
	list, ok = impl.AddMark([]int{0, 60}, 59)
	wantList(t, "AddMark beside the last", list, ok, []int{0, 59, 60})
	list, ok = impl.AddMark([]int{0, 2}, 1)
	wantList(t, "AddMark beside both", list, ok, []int{0, 1, 2})
	list, ok = impl.DropMark([]int{0, 1, 2}, 1)
	wantList(t, "DropMark of the only one", list, ok, []int{0, 2})
	list, ok = impl.DropMark([]int{0, 59, 60}, 59)
	wantList(t, "DropMark of the only one, far off", list, ok, []int{0, 60})
	for _, at := range []int{-1, 0, 1, 2} {
		list, ok = impl.AddMark([]int{0, 1}, at)
		wantNoList(t, named("AddMark to a ruler of length 1 at", at), list, ok)
		list, ok = impl.DropMark([]int{0, 1}, at)
		wantNoList(t, named("DropMark of a ruler of length 1 at", at), list, ok)
	}
}

func TestNeedlessMarksAreThoseOfTheSearch(t *testing.T) {
	for _, marks := range rulerLists() {
		list, ok := impl.NeedlessMarks(marks)
		wantList(t, payName("NeedlessMarks", marks), list, ok, needlessMarksBySearch(marks))
		for _, mark := range list {
			less, _ := impl.DropMark(marks, mark)
			lengths, ok := impl.LengthsOf(less)
			wantList(t, payName("LengthsOf without a needless mark", marks, mark), lengths, ok, laidLengths(marks))
		}
	}
}

func TestCompleteRulersAreThoseOfTheSearch(t *testing.T) {
	for length := 1; length <= impl.MaxSearchedRuler; length++ {
		rulers := completeBySearch(length)
		n, ok := impl.FewestMarks(length)
		wantNumber(t, named("FewestMarks", length), n, ok, len(rulers[0]))
		first, ok := impl.FirstComplete(length)
		wantList(t, named("FirstComplete", length), first, ok, rulers[0])
		n, ok = impl.CountComplete(length)
		wantNumber(t, named("CountComplete", length), n, ok, len(rulers))
		is, ok := impl.IsComplete(first)
		wantBool(t, payName("IsComplete FirstComplete", first), is, ok, true)
	}
}

func TestCompleteRulersOfNamedLengths(t *testing.T) {
	for _, c := range []struct {
		length, count int
		first         []int
	}{
		{1, 1, []int{0, 1}}, {2, 1, []int{0, 1, 2}}, {3, 2, []int{0, 1, 3}}, {4, 3, []int{0, 1, 2, 4}},
		{9, 4, []int{0, 1, 2, 6, 9}}, {13, 6, []int{0, 1, 2, 6, 10, 13}}, {20, 150, []int{0, 1, 2, 3, 4, 10, 15, 20}},
	} {
		n, ok := impl.FewestMarks(c.length)
		wantNumber(t, named("FewestMarks", c.length), n, ok, len(c.first))
		first, ok := impl.FirstComplete(c.length)
		wantList(t, named("FirstComplete", c.length), first, ok, c.first)
		n, ok = impl.CountComplete(c.length)
		wantNumber(t, named("CountComplete", c.length), n, ok, c.count)
	}
}

func TestSparseRulersAreThoseOfTheSearch(t *testing.T) {
	for marks := 2; marks <= impl.MaxSparse; marks++ {
		rulers := sparseBySearch(marks)
		n, ok := impl.ShortestSparse(marks)
		wantNumber(t, named("ShortestSparse", marks), n, ok, slices.Max(rulers[0]))
		first, ok := impl.FirstSparse(marks)
		wantList(t, named("FirstSparse", marks), first, ok, rulers[0])
		is, ok := impl.IsSparse(first)
		wantBool(t, payName("IsSparse FirstSparse", first), is, ok, true)
	}
}

func TestSparseRulersOfNamedMarks(t *testing.T) {
	for _, first := range [][]int{{0, 1}, {0, 1, 3}, {0, 1, 4, 6}, {0, 1, 4, 9, 11}, {0, 1, 4, 10, 12, 17}} {
		list, ok := impl.FirstSparse(len(first))
		wantList(t, named("FirstSparse", len(first)), list, ok, first)
		n, ok := impl.ShortestSparse(len(first))
		wantNumber(t, named("ShortestSparse", len(first)), n, ok, slices.Max(first))
	}
}

func TestRulersGrow(t *testing.T) {
	for _, marks := range rulerLists() {
		for k := 1; k <= longestRuler+1; k++ {
			grown, ok := impl.GrowRuler(marks, k)
			if k*slices.Max(marks) > longestRuler {
				wantNoList(t, payName("GrowRuler", marks, k), grown, ok)
				continue
			}
			far := []int{}
			for _, mark := range marks {
				far = append(far, k*mark)
			}
			wantList(t, payName("GrowRuler", marks, k), grown, ok, far)
		}
	}
}

func TestRulersGrowUpToMaxLength(t *testing.T) {
	for _, c := range []struct {
		marks []int
		k     int
		grown []int
	}{
		{[]int{0, 1}, 60, []int{0, 60}}, {[]int{0, 1, 2}, 30, []int{0, 30, 60}}, {[]int{0, 1, 4, 6}, 10, []int{0, 10, 40, 60}},
		{[]int{0, 1, 30}, 2, []int{0, 2, 60}}, {[]int{0, 7, 60}, 1, []int{0, 7, 60}},
	} {
		grown, ok := impl.GrowRuler(c.marks, c.k)
		wantList(t, payName("GrowRuler", c.marks, c.k), grown, ok, c.grown)
		grown, ok = impl.GrowRuler(c.marks, c.k+1)
		wantNoList(t, payName("GrowRuler", c.marks, c.k+1), grown, ok)
	}
}

func TestNumbersByWhichNoRulerGrows(t *testing.T) {
	for _, marks := range [][]int{{0, 1}, {0, 2}, {0, 3}, {0, 4}, {0, 4, 8}, {0, 1, 4, 6}, {0, 60}, {0, 16, 32, 48}, allMarks(60)} {
		// 64 bits do not hold the marks for the last numbers: 4 times 1<<62 + 1 is taken for 4,
		// 3 times the number behind it for 2, and 16 times the last one for 16.
		for _, k := range []int{0, -1, -2, -60, math.MinInt, math.MinInt + 1, 61, 100, 1 << 32, 1 << 62, math.MaxInt, math.MaxInt - 1,
			1<<62 + 1, 6148914691236517206, 1<<60 + 1} {
			grown, ok := impl.GrowRuler(marks, k)
			wantNoList(t, payName("GrowRuler", marks, k), grown, ok)
		}
	}
}

func TestRulersOfTwoMarks(t *testing.T) {
	for length := 1; length <= longestRuler; length++ {
		marks := []int{0, length}
		list, ok := impl.LengthsOf(marks)
		wantList(t, payName("LengthsOf", marks), list, ok, []int{length})
		list, ok = impl.MissingLengths(marks)
		wantList(t, payName("MissingLengths", marks), list, ok, allMarks(length - 1)[1:])
		list, ok = impl.NeedlessMarks(marks)
		wantList(t, payName("NeedlessMarks", marks), list, ok, nil)
		list, ok = impl.MirrorRuler(marks)
		wantList(t, payName("MirrorRuler", marks), list, ok, marks)
		is, ok := impl.IsSparse(marks)
		wantBool(t, payName("IsSparse", marks), is, ok, true)
		is, ok = impl.IsComplete(marks)
		wantBool(t, payName("IsComplete", marks), is, ok, length == 1)
		run := 0
		if length == 1 {
			run = 1
		}
		n, ok := impl.RunOfRuler(marks)
		wantNumber(t, payName("RunOfRuler", marks), n, ok, run)
	}
}

func TestRulersWithAllMarks(t *testing.T) {
	for length := 1; length <= longestRuler; length++ {
		marks := allMarks(length)
		for n := 1; n <= longestRuler; n++ {
			ways, ok := impl.WaysToMeasure(marks, n)
			wantNumber(t, payName("WaysToMeasure", marks, n), ways, ok, max(0, length+1-n))
		}
		list, ok := impl.LengthsOf(marks)
		wantList(t, payName("LengthsOf", marks), list, ok, marks[1:])
		list, ok = impl.MissingLengths(marks)
		wantList(t, payName("MissingLengths", marks), list, ok, nil)
		n, ok := impl.RunOfRuler(marks)
		wantNumber(t, payName("RunOfRuler", marks), n, ok, length)
		is, ok := impl.IsComplete(marks)
		wantBool(t, payName("IsComplete", marks), is, ok, true)
		is, ok = impl.IsSparse(marks)
		wantBool(t, payName("IsSparse", marks), is, ok, length == 1)
	}
	list, ok := impl.NeedlessMarks(allMarks(60))
	wantList(t, "NeedlessMarks of all marks", list, ok, allMarks(59)[1:])
	list, ok = impl.NeedlessMarks(allMarks(2))
	wantList(t, "NeedlessMarks 0|1|2", list, ok, nil)
}

func TestLengthsThatAreMeasuredAtTheirBounds(t *testing.T) {
	for _, c := range []struct {
		marks   []int
		n, ways int
	}{
		{[]int{0, 1}, 1, 1}, {[]int{0, 1}, 2, 0}, {[]int{0, 1}, 60, 0}, {[]int{0, 60}, 60, 1}, {[]int{0, 60}, 1, 0}, {[]int{0, 60}, 59, 0},
		{[]int{0, 1, 60}, 59, 1}, {[]int{0, 1, 59, 60}, 59, 2}, {[]int{0, 1, 59, 60}, 1, 2}, {[]int{0, 2, 4}, 1, 0}, {[]int{0, 2, 4}, 5, 0},
	} {
		ways, ok := impl.WaysToMeasure(c.marks, c.n)
		wantNumber(t, payName("WaysToMeasure", c.marks, c.n), ways, ok, c.ways)
	}
	for _, marks := range [][]int{{0, 2}, {0, 2, 4}, {0, 60}, {0, 3, 5, 60}} {
		n, ok := impl.RunOfRuler(marks)
		wantNumber(t, payName("RunOfRuler without 1", marks), n, ok, 0)
	}
}

func TestRulerTexts(t *testing.T) {
	for _, marks := range rulerLists() {
		text, ok := impl.RulerText(marks)
		if !ok {
			t.Error("RulerText", marks)
		}
		back, ok := impl.ParseRuler(text)
		wantList(t, "ParseRuler "+text, back, ok, marks)
	}
	longest := "0"
	for mark := 1; mark <= longestRuler; mark++ {
		longest += "|" + strconv.Itoa(mark)
	}
	for _, c := range []struct {
		marks []int
		text  string
	}{
		{[]int{0, 1}, "0|1"}, {[]int{0, 9}, "0|9"}, {[]int{0, 60}, "0|60"}, {[]int{0, 5, 10, 59, 60}, "0|5|10|59|60"}, {allMarks(60), longest},
	} {
		text, ok := impl.RulerText(c.marks)
		wantText(t, payName("RulerText", c.marks), text, ok, c.text)
		marks, ok := impl.ParseRuler(c.text)
		wantList(t, "ParseRuler "+c.text, marks, ok, c.marks)
	}
}

func TestTextsThatAreNoRulers(t *testing.T) {
	texts := []string{"", "|", "||", "0", "1", "0|", "|1", "|0|1", "0|1|", "0||1", "0|1||2", "0|0", "0|0|1", "1|2", "1|0", "0|2|1", "0|1|1", "0|6|6",
		"00|1", "0|01", "0|1|02", "000|1", "+0|1", "0|+1", "-0|1", "0|-1", "-1|0", "-1|0|1", " 0|1", "0|1 ", "0 |1", "0| 1", "0|1\n", "\t0|1", "0|1\x00",
		"0,1", "0+1", "0.1", "0/1", "0|1,2", "0|a", "a|1", "0|1_0", "0|0x1", "0|1e1", "0|1.0", "0|1|x", "0|\xff", "0|\u0661", "0\u00a61", "0|1-2",
		"0|61", "0|1|61", "0|60|61", "0|100", "61", "60|61", "0|9223372036854775807", "0|9223372036854775808", "0|18446744073709551617", "18446744073709551616|1",
		"-9223372036854775809|1", "0|" + strings.Repeat("9", 1000), "0|" + strings.Repeat("0", 1000) + "1", "0" + strings.Repeat("|1", 100000),
		"0|1|" + strings.Repeat("|", 100000)}
	for _, s := range texts {
		marks, ok := impl.ParseRuler(s)
		wantNoList(t, "ParseRuler "+s[:min(len(s), 50)], marks, ok)
	}
}

func TestListsThatAreNoRulers(t *testing.T) {
	for _, marks := range [][]int{
		nil, {}, {0}, {1}, {60}, {-1}, {1, 2}, {1, 60}, {-1, 1}, {-1, 0, 1}, {-60, 0}, {0, 0}, {0, 0, 1}, {0, 1, 1}, {0, 3, 3, 5}, {0, 2, 1}, {0, 5, 3, 6}, {1, 0}, {6, 4, 1, 0},
		{0, -1}, {0, -1, 1}, {0, 1, -1}, {0, 1, 0}, {0, 61}, {0, 1, 61}, {0, 61, 1}, {0, 61, 62}, {0, 60, 61}, allMarks(61), allMarks(5000), repeated(0, 2), repeated(1, 62),
		{math.MinInt, 0}, {0, math.MaxInt}, {0, math.MinInt}, {math.MinInt, math.MaxInt}, {0, 1, math.MaxInt}, {math.MaxInt, math.MinInt},
	} {
		wantNoRuler(t, marks)
		for _, n := range []int{-1, 0, 1, 2, 3, 59, 60} {
			wantNoRulerWith(t, marks, n)
		}
	}
}

// wantNoRuler checks that no function takes a list for a ruler.
func wantNoRuler(t *testing.T, marks []int) {
	t.Helper()
	if impl.IsRuler(marks) {
		t.Error("IsRuler takes", marks[:min(len(marks), 10)])
	}
	for name, f := range rulerListFunctions() {
		list, ok := f(marks)
		wantNoList(t, payName(name, marks), list, ok)
	}
	is, ok := impl.IsComplete(marks)
	wantNoBool(t, payName("IsComplete", marks), is, ok)
	is, ok = impl.IsSparse(marks)
	wantNoBool(t, payName("IsSparse", marks), is, ok)
	n, ok := impl.RunOfRuler(marks)
	wantNoNumber(t, payName("RunOfRuler", marks), n, ok)
	text, ok := impl.RulerText(marks)
	wantNoText(t, payName("RulerText", marks), text, ok)
}

func wantNoRulerWith(t *testing.T, marks []int, n int) {
	t.Helper()
	ways, ok := impl.WaysToMeasure(marks, n)
	wantNoNumber(t, payName("WaysToMeasure", marks, n), ways, ok)
	for name, f := range rulerNumberFunctions() {
		list, ok := f(marks, n)
		wantNoList(t, payName(name, marks, n), list, ok)
	}
}

func rulerListFunctions() map[string]func([]int) ([]int, bool) {
	return map[string]func([]int) ([]int, bool){
		"LengthsOf": impl.LengthsOf, "MissingLengths": impl.MissingLengths, "MirrorRuler": impl.MirrorRuler, "NeedlessMarks": impl.NeedlessMarks,
	}
}

func rulerNumberFunctions() map[string]func([]int, int) ([]int, bool) {
	return map[string]func([]int, int) ([]int, bool){
		"AddMark": impl.AddMark, "DropMark": impl.DropMark, "GrowRuler": impl.GrowRuler,
	}
}

func TestLengthsThatAreNotMeasured(t *testing.T) {
	for _, marks := range [][]int{{0, 1}, {0, 1, 4, 6}, {0, 60}, allMarks(60)} {
		for _, n := range []int{0, -1, -6, -60, 61, 62, 64, 100, 1 << 32, math.MinInt, math.MaxInt} {
			ways, ok := impl.WaysToMeasure(marks, n)
			wantNoNumber(t, payName("WaysToMeasure", marks, n), ways, ok)
		}
	}
}

func TestLengthsAndMarksThatAreNotSearched(t *testing.T) {
	for _, length := range []int{0, -1, -20, 21, 22, 60, 61, 64, 1 << 32, math.MinInt, math.MaxInt} {
		n, ok := impl.FewestMarks(length)
		wantNoNumber(t, named("FewestMarks", length), n, ok)
		n, ok = impl.CountComplete(length)
		wantNoNumber(t, named("CountComplete", length), n, ok)
		list, ok := impl.FirstComplete(length)
		wantNoList(t, named("FirstComplete", length), list, ok)
	}
	for _, marks := range []int{1, 0, -1, -6, 7, 8, 60, 61, 1 << 32, math.MinInt, math.MaxInt} {
		n, ok := impl.ShortestSparse(marks)
		wantNoNumber(t, named("ShortestSparse", marks), n, ok)
		list, ok := impl.FirstSparse(marks)
		wantNoList(t, named("FirstSparse", marks), list, ok)
	}
}
