package tests

import (
	"math"
	"slices"
	"strings"
	"testing"

	"loop.example/g01305/impl"
)

// repeated returns a list of a number so many times.
func repeated(n, times int) []int {
	return slices.Repeat([]int{n}, times)
}

// doubled returns 1, 2, 4 and so on, so many numbers.
func doubled(count int) []int {
	list := []int{}
	for i := range count {
		list = append(list, 1<<i)
	}
	return list
}

func TestPieceExamples(t *testing.T) {
	n, ok := impl.RunOf([]int{1, 2, 4})
	wantNumber(t, "RunOf 1+2+4", n, ok, 7)
	n, ok = impl.BestNext([]int{1, 2, 4})
	wantNumber(t, "BestNext 1+2+4", n, ok, 8)
	list, ok := impl.SumsOf([]int{1, 3, 3})
	wantList(t, "SumsOf 1+3+3", list, ok, []int{0, 1, 3, 4, 6, 7})
	n, ok = impl.RunOf([]int{1, 3, 3})
	wantNumber(t, "RunOf 1+3+3", n, ok, 1)
	list, ok = impl.GapsOf([]int{1, 3, 3})
	wantList(t, "GapsOf 1+3+3", list, ok, []int{2, 5})
	n, ok = impl.WaysOf([]int{1, 3, 3}, 4)
	wantNumber(t, "WaysOf 1+3+3 4", n, ok, 2)
	list, ok = impl.FirstWay([]int{1, 3, 3}, 4)
	wantList(t, "FirstWay 1+3+3 4", list, ok, []int{0, 1})
	list, ok = impl.HalfOf([]int{1, 2, 3})
	wantList(t, "HalfOf 1+2+3", list, ok, []int{0, 1})
	n, ok = impl.ClosestSum([]int{1, 3, 3}, 5)
	wantNumber(t, "ClosestSum 1+3+3 5", n, ok, 4)
	list, ok = impl.NeedlessPieces([]int{1, 1, 2})
	wantList(t, "NeedlessPieces 1+1+2", list, ok, nil)
	list, ok = impl.NeedlessPieces([]int{1, 2, 9})
	wantList(t, "NeedlessPieces 1+2+9", list, ok, []int{9})
}

func TestSumsAreThoseOfSomePieces(t *testing.T) {
	for _, list := range pieceLists() {
		ways := searchWays(list)
		total := totalOf(list)
		sums, gaps := []int{}, []int{}
		for sum := range total + 1 {
			if ways[sum] == nil {
				gaps = append(gaps, sum)
			} else {
				sums = append(sums, sum)
			}
		}
		text, _ := impl.PiecesText(list)
		n, ok := impl.SumOfPieces(list)
		wantNumber(t, "SumOfPieces "+text, n, ok, total)
		got, ok := impl.SumsOf(list)
		wantList(t, "SumsOf "+text, got, ok, sums)
		n, ok = impl.CountSums(list)
		wantNumber(t, "CountSums "+text, n, ok, len(sums))
		got, ok = impl.GapsOf(list)
		if len(gaps) > 1000 {
			wantNoList(t, "GapsOf "+text, got, ok)
		} else {
			wantList(t, "GapsOf "+text, got, ok, gaps)
		}
		got, ok = impl.HalfOf(list)
		if total%2 == 0 && ways[total/2] != nil {
			wantList(t, "HalfOf "+text, got, ok, ways[total/2][0])
		} else {
			wantNoList(t, "HalfOf "+text, got, ok)
		}
	}
}

func TestWaysAreThoseOfTheSearch(t *testing.T) {
	for _, list := range pieceLists() {
		text, _ := impl.PiecesText(list)
		ways := searchWays(list)
		for sum := range min(totalOf(list), 250) + 4 {
			can, ok := impl.CanMake(list, sum)
			wantBool(t, named("CanMake "+text, sum), can, ok, ways[sum] != nil)
			n, ok := impl.WaysOf(list, sum)
			wantNumber(t, named("WaysOf "+text, sum), n, ok, len(ways[sum]))
			n, ok = impl.ClosestSum(list, sum)
			wantNumber(t, named("ClosestSum "+text, sum), n, ok, searchClosest(ways, sum))
			way, ok := impl.FirstWay(list, sum)
			n, enough := impl.FewestFor(list, sum)
			if ways[sum] == nil {
				wantNoList(t, named("FirstWay "+text, sum), way, ok)
				wantNoNumber(t, named("FewestFor "+text, sum), n, enough)
				continue
			}
			wantList(t, named("FirstWay "+text, sum), way, ok, ways[sum][0])
			wantNumber(t, named("FewestFor "+text, sum), n, enough, searchFewest(ways[sum]))
		}
	}
}

func TestRunsEndBeforeTheFirstGap(t *testing.T) {
	for _, list := range pieceLists() {
		text, _ := impl.PiecesText(list)
		run, ok := impl.RunOf(list)
		wantNumber(t, "RunOf "+text, run, ok, searchRun(list))
		if gaps, ok := impl.GapsOf(list); ok && len(gaps) > 0 {
			wantNumber(t, "RunOf before the first gap "+text, run, true, gaps[0]-1)
		} else if ok {
			wantNumber(t, "RunOf without gaps "+text, run, true, totalOf(list))
		}
		needless, ok := impl.NeedlessPieces(list)
		wantList(t, "NeedlessPieces "+text, needless, ok, searchNeedless(list))
	}
}

func TestBestNextMakesTheRunGreatest(t *testing.T) {
	for _, list := range pieceLists() {
		text, _ := impl.PiecesText(list)
		best, ok := impl.BestNext(list)
		wantNumber(t, "BestNext "+text, best, ok, searchRun(list)+1)
		more, _ := impl.PutPiece(list, best)
		greatest := searchRun(more)
		for n := 1; n <= best+3; n++ {
			more, _ = impl.PutPiece(list, n)
			if run, ok := impl.RunOf(more); !ok || run > greatest {
				t.Errorf("%s with %d: run %d, more than with %d", text, n, run, best)
			}
		}
	}
}

func TestPutAndTake(t *testing.T) {
	for _, list := range pieceLists() {
		text, _ := impl.PiecesText(list)
		for n := 1; n <= 26; n++ {
			want := append(slices.Clone(list), n)
			slices.Sort(want)
			more, ok := impl.PutPiece(list, n)
			wantList(t, named("PutPiece "+text, n), more, ok, want)
			back, ok := impl.TakePiece(more, n)
			wantList(t, named("TakePiece behind PutPiece "+text, n), back, ok, list)
			less, ok := impl.TakePiece(list, n)
			at := slices.Index(list, n)
			if at < 0 {
				wantNoList(t, named("TakePiece "+text, n), less, ok)
				continue
			}
			wantList(t, named("TakePiece "+text, n), less, ok, slices.Delete(slices.Clone(list), at, at+1))
		}
	}
	list, ok := impl.PutPiece(repeated(5, 19), 10000)
	wantList(t, "PutPiece up to MaxPieces", list, ok, append(repeated(5, 19), 10000))
	list, ok = impl.TakePiece([]int{7}, 7)
	wantList(t, "TakePiece of the only one", list, ok, nil)
	list, ok = impl.TakePiece([]int{2, 3, 3, 4}, 3)
	wantList(t, "TakePiece of one of two", list, ok, []int{2, 3, 4})
}

func TestPutAndTakeFail(t *testing.T) {
	for _, n := range []int{0, -1, 10001, math.MinInt, math.MaxInt} {
		list, ok := impl.PutPiece([]int{1, 2}, n)
		wantNoList(t, named("PutPiece", n), list, ok)
		list, ok = impl.TakePiece([]int{1, 2}, n)
		wantNoList(t, named("TakePiece", n), list, ok)
	}
	list, ok := impl.PutPiece(repeated(5, 20), 5)
	wantNoList(t, "PutPiece to MaxPieces", list, ok)
	list, ok = impl.TakePiece(nil, 1)
	wantNoList(t, "TakePiece of none", list, ok)
	list, ok = impl.TakePiece([]int{1, 3}, 2)
	wantNoList(t, "TakePiece of another length", list, ok)
}

func TestNoPieces(t *testing.T) {
	for _, list := range [][]int{nil, {}} {
		if !impl.ArePieces(list) {
			t.Error("no pieces are pieces")
		}
		for name, f := range map[string]func([]int) (int, bool){"SumOfPieces": impl.SumOfPieces, "RunOf": impl.RunOf} {
			n, ok := f(list)
			wantNumber(t, name, n, ok, 0)
		}
		n, ok := impl.CountSums(list)
		wantNumber(t, "CountSums", n, ok, 1)
		n, ok = impl.BestNext(list)
		wantNumber(t, "BestNext", n, ok, 1)
		n, ok = impl.ClosestSum(list, 200000)
		wantNumber(t, "ClosestSum", n, ok, 0)
		n, ok = impl.WaysOf(list, 0)
		wantNumber(t, "WaysOf 0", n, ok, 1)
		n, ok = impl.WaysOf(list, 1)
		wantNumber(t, "WaysOf 1", n, ok, 0)
		n, ok = impl.FewestFor(list, 0)
		wantNumber(t, "FewestFor 0", n, ok, 0)
		sums, ok := impl.SumsOf(list)
		wantList(t, "SumsOf", sums, ok, []int{0})
		for name, f := range map[string]func([]int) ([]int, bool){"GapsOf": impl.GapsOf, "NeedlessPieces": impl.NeedlessPieces, "HalfOf": impl.HalfOf} {
			l, ok := f(list)
			wantList(t, name, l, ok, nil)
		}
		text, ok := impl.PiecesText(list)
		wantText(t, "PiecesText", text, ok, "0")
	}
}

func TestManyPieces(t *testing.T) {
	longest := repeated(impl.MaxPiece, impl.MaxPieces)
	n, ok := impl.SumOfPieces(longest)
	wantNumber(t, "SumOfPieces", n, ok, 200000)
	n, ok = impl.CountSums(longest)
	wantNumber(t, "CountSums", n, ok, 21)
	n, ok = impl.WaysOf(longest, 100000)
	wantNumber(t, "WaysOf", n, ok, 184756)
	n, ok = impl.FewestFor(longest, 200000)
	wantNumber(t, "FewestFor", n, ok, 20)
	n, ok = impl.RunOf(longest)
	wantNumber(t, "RunOf", n, ok, 0)
	n, ok = impl.ClosestSum(longest, 195000)
	wantNumber(t, "ClosestSum between two", n, ok, 190000)
	n, ok = impl.ClosestSum(longest, 195001)
	wantNumber(t, "ClosestSum", n, ok, 200000)
	half, ok := impl.HalfOf(longest)
	wantList(t, "HalfOf", half, ok, []int{0, 1, 2, 3, 4, 5, 6, 7, 8, 9})
	ones := repeated(1, 20)
	n, ok = impl.WaysOf(ones, 10)
	wantNumber(t, "WaysOf 20 of 1", n, ok, 184756)
	n, ok = impl.RunOf(ones)
	wantNumber(t, "RunOf 20 of 1", n, ok, 20)
	needless, ok := impl.NeedlessPieces(longest)
	wantList(t, "NeedlessPieces", needless, ok, []int{10000})
}

func TestSumsAtTheBounds(t *testing.T) {
	longest := repeated(impl.MaxPiece, impl.MaxPieces)
	for _, list := range [][]int{nil, {1, 3, 3}, {10000}, longest} {
		total := totalOf(list)
		all := []int{}
		for i := range list {
			all = append(all, i)
		}
		can, ok := impl.CanMake(list, 0)
		wantBool(t, "CanMake 0", can, ok, true)
		can, ok = impl.CanMake(list, total)
		wantBool(t, "CanMake all", can, ok, true)
		way, ok := impl.FirstWay(list, 0)
		wantList(t, "FirstWay 0", way, ok, nil)
		way, ok = impl.FirstWay(list, total)
		wantList(t, "FirstWay all", way, ok, all)
		n, ok := impl.WaysOf(list, total)
		wantNumber(t, "WaysOf all", n, ok, 1)
		n, ok = impl.FewestFor(list, total)
		wantNumber(t, "FewestFor all", n, ok, len(list))
		can, ok = impl.CanMake(list, 200000)
		wantBool(t, "CanMake 200000", can, ok, total == 200000)
		n, ok = impl.ClosestSum(list, 200000)
		wantNumber(t, "ClosestSum 200000", n, ok, total)
		for _, sum := range []int{-1, 200001, math.MinInt, math.MaxInt} {
			wantNoSum(t, list, sum)
		}
	}
}

// wantNoSum calls all functions that take a sum, with one that they must refuse or with no pieces.
func wantNoSum(t *testing.T, list []int, sum int) {
	t.Helper()
	can, ok := impl.CanMake(list, sum)
	wantNoBool(t, named("CanMake", sum), can, ok)
	n, ok := impl.WaysOf(list, sum)
	wantNoNumber(t, named("WaysOf", sum), n, ok)
	n, ok = impl.FewestFor(list, sum)
	wantNoNumber(t, named("FewestFor", sum), n, ok)
	n, ok = impl.ClosestSum(list, sum)
	wantNoNumber(t, named("ClosestSum", sum), n, ok)
	way, ok := impl.FirstWay(list, sum)
	wantNoList(t, named("FirstWay", sum), way, ok)
}

func TestLimitsOfLists(t *testing.T) {
	gaps, ok := impl.GapsOf([]int{1001})
	if !ok || len(gaps) != 1000 || gaps[0] != 1 || gaps[999] != 1000 {
		t.Error("1000 gaps", len(gaps), ok)
	}
	gaps, ok = impl.GapsOf([]int{1002})
	wantNoList(t, "1001 gaps", gaps, ok)
	gaps, ok = impl.GapsOf(repeated(10000, 20))
	wantNoList(t, "GapsOf of the longest", gaps, ok)
	sums, ok := impl.SumsOf(doubled(12))
	if !ok || len(sums) != 4096 || sums[4095] != 4095 || !slices.IsSorted(sums) {
		t.Error("SumsOf of 12 pieces", len(sums), ok)
	}
	sums, ok = impl.SumsOf(repeated(3, 12))
	wantList(t, "SumsOf of 12 of 3", sums, ok, []int{0, 3, 6, 9, 12, 15, 18, 21, 24, 27, 30, 33, 36})
	sums, ok = impl.SumsOf(repeated(3, 13))
	wantNoList(t, "SumsOf of 13 pieces", sums, ok)
}

func TestBestNextAtItsLimits(t *testing.T) {
	n, ok := impl.BestNext(append(doubled(13), 1808))
	wantNoNumber(t, "pieces out of order", n, ok)
	for _, c := range []struct{ last, want int }{{1807, 9999}, {1808, 10000}, {1809, 10000}, {4096, 10000}} {
		list := append(doubled(13), c.last)
		slices.Sort(list)
		n, ok := impl.BestNext(list)
		wantNumber(t, named("BestNext with", c.last), n, ok, c.want)
	}
	n, ok = impl.BestNext(repeated(1, 19))
	wantNumber(t, "BestNext of 19 pieces", n, ok, 20)
	n, ok = impl.BestNext(repeated(1, 20))
	wantNoNumber(t, "BestNext of MaxPieces", n, ok)
}

func TestHalfOfFails(t *testing.T) {
	for _, list := range [][]int{{1}, {2}, {1, 2}, {1, 1, 4}, {1, 3, 3, 3, 3}, {10000}} {
		half, ok := impl.HalfOf(list)
		wantNoList(t, "HalfOf", half, ok)
	}
}

func TestPiecesTexts(t *testing.T) {
	for _, list := range pieceLists() {
		text, ok := impl.PiecesText(list)
		if !ok {
			t.Error("PiecesText", list)
		}
		back, ok := impl.ParsePieces(text)
		wantList(t, "ParsePieces "+text, back, ok, list)
	}
	text, ok := impl.PiecesText([]int{1, 2, 2, 10000})
	wantText(t, "PiecesText", text, ok, "1+2+2+10000")
	longest := strings.Repeat("10000+", 19) + "10000"
	list, ok := impl.ParsePieces(longest)
	wantList(t, "ParsePieces of the longest", list, ok, repeated(10000, 20))
	list, ok = impl.ParsePieces("0")
	wantList(t, "ParsePieces 0", list, ok, nil)
}

func TestTextsThatAreNone(t *testing.T) {
	texts := []string{"", " ", "+", "00", "01", "+1", "1+", "1++2", "1+0", "0+1", "0+0", "-1", "-0", "1 +2", " 1", "1\n", "1+2 ",
		"2+1", "10001", "1+10001", "1_0", "0x1", "1e1", "1.0", "a", "1+b", "1-2", "1,2", "+0", "1+01", "1\x00", "\xff", "\u0661",
		"9223372036854775808", "18446744073709551617", strings.Repeat("1+", 20) + "1", strings.Repeat("1+", 100000) + "1", strings.Repeat("9", 1000)}
	for _, s := range texts {
		list, ok := impl.ParsePieces(s)
		wantNoList(t, "ParsePieces "+s[:min(len(s), 50)], list, ok)
	}
}

func TestListsThatAreNoPieces(t *testing.T) {
	none := [][]int{{0}, {-1}, {10001}, {2, 1}, {1, 3, 2}, {1, 0}, {0, 1}, {-5, 1}, {1, 10001}, {math.MinInt}, {math.MaxInt},
		{math.MinInt, math.MaxInt}, repeated(1, 21), repeated(10000, 21), repeated(1, 100000)}
	for _, list := range none {
		if impl.ArePieces(list) {
			t.Error("ArePieces", list[:min(len(list), 30)])
		}
		for name, f := range numberFunctions() {
			n, ok := f(list)
			wantNoNumber(t, name, n, ok)
		}
		for name, f := range listFunctions() {
			l, ok := f(list)
			wantNoList(t, name, l, ok)
		}
		for _, sum := range []int{0, 1, totalOf(list), 200000} {
			wantNoSum(t, list, sum)
		}
		for _, n := range []int{1, 2, 10000, list[0]} {
			l, ok := impl.PutPiece(list, n)
			wantNoList(t, "PutPiece", l, ok)
			l, ok = impl.TakePiece(list, n)
			wantNoList(t, "TakePiece", l, ok)
		}
		text, ok := impl.PiecesText(list)
		wantNoText(t, "PiecesText", text, ok)
	}
}

func TestListsThatArePieces(t *testing.T) {
	for _, list := range [][]int{{1}, {10000}, {1, 1}, {1, 10000}, {3, 3, 4}, repeated(1, 20), repeated(10000, 20), doubled(13)} {
		if !impl.ArePieces(list) {
			t.Error("ArePieces", list)
		}
	}
}

func numberFunctions() map[string]func([]int) (int, bool) {
	return map[string]func([]int) (int, bool){
		"SumOfPieces": impl.SumOfPieces, "CountSums": impl.CountSums, "RunOf": impl.RunOf, "BestNext": impl.BestNext,
	}
}

func listFunctions() map[string]func([]int) ([]int, bool) {
	return map[string]func([]int) ([]int, bool){
		"SumsOf": impl.SumsOf, "GapsOf": impl.GapsOf, "NeedlessPieces": impl.NeedlessPieces, "HalfOf": impl.HalfOf,
	}
}
