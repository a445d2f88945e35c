package tests

import (
	"math"
	"slices"
	"strings"
	"testing"

	"loop.example/g01305/impl"
)

func TestSideExamples(t *testing.T) {
	list := []int{1, 3, 9}
	for n := range 14 {
		can, ok := impl.CanBalance(list, n)
		wantBool(t, named("CanBalance 1+3+9", n), can, ok, true)
	}
	n, ok := impl.RunBoth(list)
	wantNumber(t, "RunBoth 1+3+9", n, ok, 13)
	n, ok = impl.BestBoth(list)
	wantNumber(t, "BestBoth 1+3+9", n, ok, 27)
	text, ok := impl.FirstBoth(list, 5)
	wantText(t, "FirstBoth 1+3+9 5", text, ok, "--+")
	text, ok = impl.BalancedOf(5)
	wantText(t, "BalancedOf 5", text, ok, "+--")
	n, ok = impl.WaysBoth([]int{1, 1}, 0)
	wantNumber(t, "WaysBoth 1+1 0", n, ok, 3)
	given, back, ok := impl.PayBoth([]int{5, 10}, []int{1, 2}, 8)
	wantPair(t, "PayBoth 5+10 1+2 8", given, back, ok, 10, 2)
	n, ok = impl.NumberOfSigns("+0-")
	wantNumber(t, "NumberOfSigns +0-", n, ok, 8)
}

func TestBalancesAreThoseOfTheSearch(t *testing.T) {
	for _, list := range sideLists() {
		byValue := signsByValue(list)
		for n := range min(totalOf(list), 1000) + 4 {
			checkBalance(t, list, n, byValue[n])
		}
		for _, n := range []int{totalOf(list) - 1, totalOf(list), totalOf(list) + 1, impl.MaxBalanced} {
			if n >= 0 {
				checkBalance(t, list, n, byValue[n])
			}
		}
	}
}

// checkBalance compares all that is told of a number with the signs that have it as their value, in their order.
func checkBalance(t *testing.T, list []int, n int, all []string) {
	t.Helper()
	can, ok := impl.CanBalance(list, n)
	wantBool(t, payName("CanBalance", list, n), can, ok, len(all) > 0)
	ways, ok := impl.WaysBoth(list, n)
	wantNumber(t, payName("WaysBoth", list, n), ways, ok, len(all))
	first, ok := impl.FirstBoth(list, n)
	fewest, fine := impl.FewestBoth(list, n)
	if len(all) == 0 {
		wantNoText(t, payName("FirstBoth", list, n), first, ok)
		wantNoNumber(t, payName("FewestBoth", list, n), fewest, fine)
		return
	}
	wantText(t, payName("FirstBoth", list, n), first, ok, all[0])
	wantNumber(t, payName("FewestBoth", list, n), fewest, fine, fewestNotLeft(all))
}

func TestTwelvePiecesOnBothSides(t *testing.T) {
	for _, list := range [][]int{doubled(12), repeated(7, 12), repeated(impl.MaxPiece, 12), {1, 3, 9, 27, 81, 243, 729, 2187, 6561, 6561, 10000, 10000}, {2, 2, 3, 5, 5, 5, 8, 13, 21, 34, 55, 89}} {
		byValue := signsByValue(list)
		total := totalOf(list)
		for _, n := range []int{0, 1, 2, 3, 6, 7, 35, 82, 84, 85, 2730, 4095, 4096, 10000, 13122, 20000, 110000, total - 1, total, total + 1, impl.MaxBalanced} {
			checkBalance(t, list, n, byValue[n])
		}
		checkValues(t, list, byValue)
	}
}

func TestValuesAreThoseOfTheSearch(t *testing.T) {
	for _, list := range sideLists() {
		checkValues(t, list, signsByValue(list))
	}
}

// checkValues compares all that is told of the values with the signs that have each.
func checkValues(t *testing.T, list []int, byValue map[int][]string) {
	t.Helper()
	count, gaps := 0, []int{}
	for n := range totalOf(list) + 1 {
		if byValue[n] == nil {
			gaps = append(gaps, n)
		} else {
			count++
		}
	}
	n, ok := impl.CountBoth(list)
	wantNumber(t, payName("CountBoth", list), n, ok, count)
	got, ok := impl.GapsBoth(list)
	if len(gaps) > 1000 {
		wantNoList(t, payName("GapsBoth", list), got, ok)
	} else {
		wantList(t, payName("GapsBoth", list), got, ok, gaps)
	}
	if totalOf(list) > 10000 {
		return
	}
	run := totalOf(list)
	if len(gaps) > 0 {
		run = gaps[0] - 1
	}
	n, ok = impl.RunBoth(list)
	wantNumber(t, payName("RunBoth", list), n, ok, run)
}

func TestBestBothMakesTheRunGreatest(t *testing.T) {
	for _, list := range sideLists() {
		run := runOfValues(valuesBySets(list))
		best, ok := impl.BestBoth(list)
		if run < totalOf(list) {
			wantNoNumber(t, payName("BestBoth", list), best, ok)
			continue
		}
		wantNumber(t, payName("BestBoth", list), best, ok, 2*run+1)
		if run > 40 {
			continue
		}
		greatest := runOfValues(valuesBySets(append(slices.Clone(list), best)))
		for n := 1; n <= best+5; n++ {
			if more := runOfValues(valuesBySets(append(slices.Clone(list), n))); more >= greatest && n != best {
				t.Errorf("%s with %d: run %d, as great as with %d", payName("BestBoth", list), n, more, best)
			}
		}
	}
}

func TestSignsHaveTheirValues(t *testing.T) {
	for _, list := range [][]int{nil, {}, {1}, {10000}, {1, 3, 9}, {5, 5, 5, 5}, {1, 10, 100, 1000, 10000}, {1, 1, 2, 2, 3, 3, 4}} {
		for _, signs := range allSigns(len(list)) {
			want := valueBySearch(list, signs)
			value, ok := impl.ValueOfSigns(list, signs)
			wantNumber(t, payName("ValueOfSigns "+signs, list), value, ok, want)
			other, ok := impl.OtherSigns(list, signs)
			wantText(t, payName("OtherSigns "+signs, list), other, ok, turned(signs))
			value, ok = impl.ValueOfSigns(list, other)
			wantNumber(t, payName("ValueOfSigns "+other, list), value, ok, -want)
		}
	}
	for signs, want := range map[string]int{"000000000000": 0, "++++++++++++": 120000, "------------": -120000, "+-0+-0+-0+-0": 0, "0--000000000": -20000, "-00000000000": -10000, "00000000000+": 10000} {
		value, ok := impl.ValueOfSigns(repeated(impl.MaxPiece, 12), signs)
		wantNumber(t, "ValueOfSigns "+signs, value, ok, want)
		other, ok := impl.OtherSigns(repeated(impl.MaxPiece, 12), signs)
		wantText(t, "OtherSigns "+signs, other, ok, turned(signs))
	}
	other, ok := impl.OtherSigns([]int{1, 2, 3, 4, 5}, "+-0-+")
	wantText(t, "OtherSigns +-0-+", other, ok, "-+0+-")
}

func TestFirstSignsHaveTheNumberAsTheirValue(t *testing.T) {
	for _, list := range [][]int{doubled(12), tripled(9), {1, 2, 2, 5, 10, 20, 20, 50, 100, 200, 200, 500}} {
		for n := range min(totalOf(list), 600) + 1 {
			signs, ok := impl.FirstBoth(list, n)
			if !ok {
				t.Error(payName("FirstBoth", list, n))
			}
			value, ok := impl.ValueOfSigns(list, signs)
			wantNumber(t, payName("ValueOfSigns of FirstBoth", list), value, ok, n)
		}
	}
	// The pieces 1, 3, 9 and so on have one way for each number: its balanced digits from behind.
	for n := range 9842 {
		if n%7 != 0 && n < 9830 {
			continue
		}
		signs, ok := impl.FirstBoth(tripled(9), n)
		digits, fine := impl.BalancedOf(n)
		backward := []byte(strings.TrimRight(signs, "0"))
		slices.Reverse(backward)
		if len(backward) == 0 {
			backward = []byte("0")
		}
		wantText(t, named("BalancedOf", n), digits, ok && fine, string(backward))
	}
}

func TestNoPiecesOnBothSides(t *testing.T) {
	for _, list := range [][]int{nil, {}} {
		checkBalance(t, list, 0, []string{""})
		checkBalance(t, list, 1, nil)
		checkBalance(t, list, impl.MaxBalanced, nil)
		value, ok := impl.ValueOfSigns(list, "")
		wantNumber(t, "ValueOfSigns of none", value, ok, 0)
		other, ok := impl.OtherSigns(list, "")
		wantText(t, "OtherSigns of none", other, ok, "")
		n, ok := impl.RunBoth(list)
		wantNumber(t, "RunBoth of none", n, ok, 0)
		n, ok = impl.BestBoth(list)
		wantNumber(t, "BestBoth of none", n, ok, 1)
		n, ok = impl.CountBoth(list)
		wantNumber(t, "CountBoth of none", n, ok, 1)
		gaps, ok := impl.GapsBoth(list)
		wantList(t, "GapsBoth of none", gaps, ok, nil)
	}
}

func TestRunsOnBothSides(t *testing.T) {
	for _, c := range []struct {
		list []int
		run  int
	}{
		{[]int{1}, 1}, {[]int{2}, 0}, {[]int{10000}, 0}, {[]int{1, 4}, 1}, {[]int{1, 3}, 4}, {[]int{2, 3}, 3}, {[]int{1, 1, 1}, 3}, {[]int{1, 3, 10}, 4}, {[]int{1, 9999}, 1}, {[]int{5000, 5000}, 0},
		{tripled(9), 9841}, {append(tripled(8), 6560), 9840}, {append(tripled(8), 6562), 3280}, {[]int{1, 3, 9, 27, 81, 159, 243, 729, 2187, 6561}, 10000}, {[]int{1, 3, 9, 27, 81, 160, 243, 729, 2187, 6560}, 10000},
		{repeated(1, 19), 19}, {repeated(1, 20), 20}, {repeated(500, 20), 0}, {append(repeated(1, 19), 39), 58}, {append(repeated(1, 19), 40), 19}, {append(repeated(1, 19), 9981), 19}, {slices.Concat(repeated(1, 10), repeated(21, 10)), 220},
		{slices.Concat(repeated(1, 10), repeated(990, 10)), 10}, {slices.Concat(repeated(2, 10), repeated(3, 10)), 48},
	} {
		run, ok := impl.RunBoth(c.list)
		wantNumber(t, payName("RunBoth", c.list), run, ok, c.run)
		wantNumber(t, payName("values", c.list), runOfValues(valuesBySets(c.list)), true, c.run)
	}
}

func TestBestBothAtItsLimits(t *testing.T) {
	most := slices.Concat(tripled(7), []int{1719, 2187}) // together 4999
	over := slices.Concat(tripled(7), []int{1720, 2187}) // together 5000
	for _, c := range []struct {
		list []int
		best int
	}{{nil, 1}, {[]int{1}, 3}, {[]int{1, 1}, 5}, {[]int{1, 3}, 9}, {tripled(8), 6561}, {most, 9999}, {repeated(1, 19), 39}, {slices.Concat(repeated(1, 10), repeated(21, 9)), 399}} {
		best, ok := impl.BestBoth(c.list)
		wantNumber(t, payName("BestBoth", c.list), best, ok, c.best)
	}
	run, ok := impl.RunBoth(most)
	wantNumber(t, payName("RunBoth", most), run, ok, 4999)
	run, ok = impl.RunBoth(over)
	wantNumber(t, payName("RunBoth", over), run, ok, 5000)
	for _, list := range [][]int{{2}, {3, 3}, {2, 3}, {1, 4}, {1, 3, 10}, {10000}, over, tripled(9), repeated(1, 20), repeated(500, 20), slices.Concat(repeated(1, 10), repeated(21, 10)),
		{1, 3, 9, 27, 81, 159, 243, 729, 2187, 6561}, append(repeated(1, 18), 38), slices.Concat(repeated(2, 10), repeated(3, 9)), append(repeated(1, 19), 39)} {
		best, ok := impl.BestBoth(list)
		wantNoNumber(t, payName("BestBoth", list), best, ok)
	}
}

func TestGapsAndCountsOnBothSides(t *testing.T) {
	for _, c := range []struct {
		list []int
		gaps []int
	}{{[]int{1, 3, 9}, nil}, {repeated(1, 12), nil}, {[]int{2}, []int{1}}, {[]int{2, 3}, []int{4}}, {[]int{1, 4}, []int{2}}, {[]int{3, 3}, []int{1, 2, 4, 5}}, {[]int{1, 2, 9}, []int{4, 5}}} {
		gaps, ok := impl.GapsBoth(c.list)
		wantList(t, payName("GapsBoth", c.list), gaps, ok, c.gaps)
	}
	// The values of 1 and 1003 are 0, 1, 1002, 1003 and 1004.
	for _, c := range []struct {
		list  []int
		first int
	}{{[]int{1001}, 1}, {[]int{1, 1003}, 2}} {
		gaps, ok := impl.GapsBoth(c.list)
		if !ok || len(gaps) != 1000 || gaps[0] != c.first || gaps[999] != c.first+999 {
			t.Error(payName("GapsBoth", c.list), len(gaps), ok)
		}
	}
	for _, list := range [][]int{{1002}, {1, 1004}, {10000}, repeated(10000, 12)} {
		gaps, ok := impl.GapsBoth(list)
		wantNoList(t, payName("GapsBoth", list), gaps, ok)
	}
	for count := range 13 {
		for _, piece := range []int{1, 2, 7, 10000} {
			n, ok := impl.CountBoth(repeated(piece, count))
			wantNumber(t, payName("CountBoth", repeated(piece, count)), n, ok, count+1)
		}
	}
	n, ok := impl.CountBoth(tripled(9))
	wantNumber(t, "CountBoth of 9 tripled", n, ok, 9842)
}

func TestPiecesForRunAreTheFewest(t *testing.T) {
	for run := range 9842 {
		want := []int{}
		for _, piece := range []int{1, 3, 9, 27, 81, 243, 729, 2187, 6561} {
			// Without the piece the values end at what all pieces in front of it have together.
			if run > totalOf(want) {
				want = append(want, piece)
			}
		}
		list, ok := impl.PiecesForRun(run)
		wantList(t, named("PiecesForRun", run), list, ok, want)
	}
	for run, count := range map[int]int{0: 0, 1: 1, 2: 2, 4: 2, 5: 3, 13: 3, 14: 4, 40: 4, 41: 5, 121: 5, 122: 6, 364: 6, 365: 7, 1093: 7, 1094: 8, 3280: 8, 3281: 9, 9841: 9} {
		list, ok := impl.PiecesForRun(run)
		wantList(t, named("PiecesForRun", run), list, ok, tripled(count))
		reached, ok := impl.RunBoth(list)
		wantNumber(t, named("RunBoth of PiecesForRun", run), reached, ok, totalOf(tripled(count)))
		if reached < run {
			t.Error("PiecesForRun", run, "reach only", reached)
		}
	}
	for _, run := range []int{-1, -2, 9842, 9843, 29524, math.MinInt, math.MaxInt} {
		list, ok := impl.PiecesForRun(run)
		wantNoList(t, named("PiecesForRun", run), list, ok)
	}
}

func TestBalancedDigitsTellNumbersAgain(t *testing.T) {
	for _, digits := range allSigns(9) {
		digits = strings.TrimLeft(digits, "0")
		if digits == "" {
			digits = "0"
		}
		checkDigits(t, numberBySearch(digits), digits)
	}
	for n := 0; n <= 797161; n += 101 {
		for _, number := range []int{n, -n, 797161 - n, n - 797161} {
			digits, ok := impl.BalancedOf(number)
			if !ok || strings.Trim(digits, "+-0") != "" || len(digits) > 13 || digits[0] == '0' && digits != "0" || numberBySearch(digits) != number {
				t.Error("BalancedOf", number, digits, ok)
			}
			checkDigits(t, number, digits)
		}
	}
}

// checkDigits checks that a number has balanced digits, at most 13, and these tell it.
func checkDigits(t *testing.T, number int, digits string) {
	t.Helper()
	got, ok := impl.BalancedOf(number)
	wantText(t, named("BalancedOf", number), got, ok, digits)
	n, ok := impl.NumberOfSigns(digits)
	wantNumber(t, "NumberOfSigns "+digits, n, ok, number)
	other, ok := impl.NegateSigns(digits)
	wantText(t, "NegateSigns "+digits, other, ok, turned(digits))
	n, ok = impl.NumberOfSigns(other)
	wantNumber(t, "NumberOfSigns "+other, n, ok, -number)
}

func TestBalancedDigitsOfNamedNumbers(t *testing.T) {
	for digits, number := range map[string]int{
		"0": 0, "+": 1, "-": -1, "+-": 2, "-+": -2, "+0": 3, "++": 4, "+--": 5, "+-0": 6, "+0-": 8, "+00": 9, "+0+": 10, "-0+": -8, "-00": -9, "-0-": -10, "+00-": 26, "+000": 27, "+00+": 28,
		"++++++++++++": 265720, "+------------": 265721, "+00000000000-": 531440, "+000000000000": 531441, "+00000000000+": 531442, "-000000000000": -531441, "+++++++++++++": 797161, "-------------": -797161, "++++++++++++0": 797160,
	} {
		checkDigits(t, number, digits)
	}
	power := 1
	for place := range 13 {
		zeros := strings.Repeat("0", place)
		checkDigits(t, power, "+"+zeros)
		checkDigits(t, -power, "-"+zeros)
		if place > 0 {
			checkDigits(t, power+1, "+"+zeros[1:]+"+")
			checkDigits(t, power-1, "+"+zeros[1:]+"-")
			checkDigits(t, -power-1, "-"+zeros[1:]+"-")
			checkDigits(t, -power+1, "-"+zeros[1:]+"+")
		}
		power *= 3
	}
}

func TestNumbersOfFourteenDigits(t *testing.T) {
	for digits, number := range map[string]int{
		"+-------------": 797162, "-+++++++++++++": -797162, "+-0-0-++-+-000": 999999, "+-0-0-++-+-00+": 1000000, "-+0+0+--+-+00-": -1000000,
	} {
		got, ok := impl.BalancedOf(number)
		wantText(t, named("BalancedOf", number), got, ok, digits)
		wantNumber(t, "digits "+digits, numberBySearch(digits), true, number)
		wantNoDigitsTaken(t, digits)
	}
	for n := 797162; n <= impl.MaxBalanced; n += 97 {
		for _, number := range []int{n, -n} {
			digits, ok := impl.BalancedOf(number)
			if !ok || strings.Trim(digits, "+-0") != "" || digits[0] == '0' || numberBySearch(digits) != number {
				t.Error("BalancedOf", number, digits, ok)
			}
		}
	}
	for _, n := range []int{1000001, -1000001, 1594322, 1594323, 2391484, -2391484, 1 << 32, -1 << 32, math.MaxInt, math.MinInt, math.MinInt + 1} {
		digits, ok := impl.BalancedOf(n)
		wantNoText(t, named("BalancedOf", n), digits, ok)
	}
}

func TestSignsAreAdded(t *testing.T) {
	samples := []int{0, 1, -1, 2, -2, 3, 5, -5, 8, 13, -13, 121, -122, 1000, -9841, 9842, 202838, 202839, 202840, -202839, -202840, 265720, 265721, 500000, -500000, 500001, 531441, 797160, 797161, -797160, -797161}
	for _, a := range samples {
		for _, b := range samples {
			first, _ := impl.BalancedOf(a)
			second, _ := impl.BalancedOf(b)
			sum, ok := impl.AddSigns(first, second)
			if a+b < -1000000 || a+b > 1000000 {
				wantNoText(t, "AddSigns "+first+" "+second, sum, ok)
				continue
			}
			want, _ := impl.BalancedOf(a + b)
			wantText(t, "AddSigns "+first+" "+second, sum, ok, want)
			wantNumber(t, "number of AddSigns "+first+" "+second, numberBySearch(sum), ok, a+b)
		}
	}
	for _, c := range [][3]string{
		{"0", "0", "0"}, {"0", "+-", "+-"}, {"-+0", "0", "-+0"}, {"+", "-", "0"}, {"+--", "-++", "0"}, {"+", "+", "+-"}, {"-", "-", "-+"}, {"+0-", "-", "+-+"}, {"+++++++++++++", "-------------", "0"},
		{"+++++++++++++", "+0++0-+-+--0", "+-0-0-++-+-00+"}, {"-------------", "-0--0+-+-++0", "-+0+0+--+-+00-"}, {"+++++++++++++", "+", "+-------------"},
	} {
		sum, ok := impl.AddSigns(c[0], c[1])
		wantText(t, "AddSigns "+c[0]+" "+c[1], sum, ok, c[2])
		sum, ok = impl.AddSigns(c[1], c[0])
		wantText(t, "AddSigns "+c[1]+" "+c[0], sum, ok, c[2])
	}
	for _, c := range [][2]string{{"+++++++++++++", "+0++0-+-+--+"}, {"-------------", "-0--0+-+-++-"}, {"+++++++++++++", "+++++++++++++"}, {"-------------", "-------------"}} {
		sum, ok := impl.AddSigns(c[0], c[1])
		wantNoText(t, "AddSigns "+c[0]+" "+c[1], sum, ok)
		sum, ok = impl.AddSigns(c[1], c[0])
		wantNoText(t, "AddSigns "+c[1]+" "+c[0], sum, ok)
	}
	zero, ok := impl.NegateSigns("0")
	wantText(t, "NegateSigns 0", zero, ok, "0")
}

func TestPaymentsAreThoseOfTheSearch(t *testing.T) {
	purses := [][]int{nil, {1}, {2}, {10}, {1, 1}, {1, 2}, {3, 3}, {5, 10}, {1, 3, 9}, {2, 4, 8}, {4, 6, 9, 11}, {7, 7, 7, 7}, {10, 20, 20, 50}, {1, 2, 5, 10, 20}}
	for _, mine := range purses {
		for _, theirs := range purses {
			for n := range totalOf(mine) + 3 {
				checkPayment(t, mine, theirs, n)
			}
			checkPayment(t, mine, theirs, impl.MaxBalanced)
		}
	}
}

// checkPayment compares a payment with the search, and checks that it comes out.
func checkPayment(t *testing.T, mine, theirs []int, n int) {
	t.Helper()
	name := payName("PayBoth", mine) + payName(" and", theirs, n)
	given, back, ok := impl.PayBoth(mine, theirs, n)
	wantGiven, wantBack, is := paymentBySearch(mine, theirs, n)
	if !is {
		wantNoPair(t, name, given, back, ok)
		return
	}
	wantPair(t, name, given, back, ok, wantGiven, wantBack)
	canGive, _ := impl.CanMake(mine, given)
	canReturn, _ := impl.CanMake(theirs, back)
	if !canGive || !canReturn || given-back != n {
		t.Error(name, "does not come out:", given, back)
	}
}

func TestNamedPayments(t *testing.T) {
	many := repeated(500, 20)
	for _, c := range []struct {
		mine, theirs   []int
		n, given, back int
	}{
		{nil, nil, 0, 0, 0}, {[]int{5}, nil, 0, 0, 0}, {[]int{5}, nil, 5, 5, 0}, {nil, []int{5}, 0, 0, 0}, {[]int{5}, []int{5}, 0, 0, 0}, {[]int{5, 10}, []int{1, 2}, 10, 10, 0}, {[]int{5, 10}, []int{1, 2}, 2, 5, 3},
		{[]int{3, 10}, []int{1, 8}, 2, 3, 1}, {[]int{10, 20}, []int{3, 13}, 7, 10, 3}, {[]int{10000}, []int{10000}, 0, 0, 0}, {[]int{10000}, []int{9999}, 1, 10000, 9999}, {[]int{10000}, nil, 10000, 10000, 0},
		{many, many, 0, 0, 0}, {many, many, 10000, 10000, 0}, {many, many, 500, 500, 0}, {many, append(repeated(1, 19), 480), 1, 500, 499}, {many, append(repeated(1, 19), 480), 9501, 10000, 499}, {many, repeated(499, 20), 1, 500, 499}, {many, repeated(499, 20), 20, 10000, 9980},
		{repeated(1, 20), repeated(1, 20), 20, 20, 0}, {[]int{1, 3, 9, 27, 81, 159, 243, 729, 2187, 6561}, []int{10000}, 0, 0, 0},
	} {
		given, back, ok := impl.PayBoth(c.mine, c.theirs, c.n)
		wantPair(t, payName("PayBoth", c.mine)+payName(" and", c.theirs, c.n), given, back, ok, c.given, c.back)
	}
	for _, c := range []struct {
		mine, theirs []int
		n            int
	}{
		{nil, nil, 1}, {nil, []int{1, 2}, 1}, {[]int{5}, nil, 4}, {[]int{5}, nil, 6}, {[]int{5}, []int{2}, 4}, {[]int{5, 10}, []int{1, 2}, 1}, {[]int{1}, []int{2}, 1000000}, {many, many, 1}, {many, many, 10001}, {many, many, 10500}, {many, many, 1000000},
		{many, repeated(499, 20), 21}, {[]int{10000}, []int{10000}, 5000},
	} {
		given, back, ok := impl.PayBoth(c.mine, c.theirs, c.n)
		wantNoPair(t, payName("PayBoth", c.mine)+payName(" and", c.theirs, c.n), given, back, ok)
	}
}

// wantNoBalance checks that no function takes pieces with a number.
func wantNoBalance(t *testing.T, list []int, n int) {
	t.Helper()
	can, ok := impl.CanBalance(list, n)
	wantNoBool(t, payName("CanBalance", list, n), can, ok)
	number, ok := impl.WaysBoth(list, n)
	wantNoNumber(t, payName("WaysBoth", list, n), number, ok)
	signs, ok := impl.FirstBoth(list, n)
	wantNoText(t, payName("FirstBoth", list, n), signs, ok)
	number, ok = impl.FewestBoth(list, n)
	wantNoNumber(t, payName("FewestBoth", list, n), number, ok)
}

// wantNoSigns checks that no function takes signs for pieces.
func wantNoSigns(t *testing.T, list []int, signs string) {
	t.Helper()
	value, ok := impl.ValueOfSigns(list, signs)
	wantNoNumber(t, payName("ValueOfSigns "+signs[:min(len(signs), 20)], list), value, ok)
	other, ok := impl.OtherSigns(list, signs)
	wantNoText(t, payName("OtherSigns "+signs[:min(len(signs), 20)], list), other, ok)
}

// wantNoSidePieces checks that none of the functions that take at most 12 pieces takes a list.
func wantNoSidePieces(t *testing.T, list []int) {
	t.Helper()
	for _, n := range []int{0, 1, 2, 10000, impl.MaxBalanced} {
		wantNoBalance(t, list, n)
	}
	for _, sign := range []string{"+", "-", "0"} {
		wantNoSigns(t, list, strings.Repeat(sign, len(list)))
	}
	wantNoSigns(t, list, "")
	gaps, ok := impl.GapsBoth(list)
	wantNoList(t, payName("GapsBoth", list), gaps, ok)
	n, ok := impl.CountBoth(list)
	wantNoNumber(t, payName("CountBoth", list), n, ok)
}

// wantNoneTogether checks that none of the functions that take pieces of together at most 10000 takes a list.
func wantNoneTogether(t *testing.T, list []int) {
	t.Helper()
	n, ok := impl.RunBoth(list)
	wantNoNumber(t, payName("RunBoth", list), n, ok)
	n, ok = impl.BestBoth(list)
	wantNoNumber(t, payName("BestBoth", list), n, ok)
	for _, n := range []int{0, 1, 2, 10000, impl.MaxBalanced} {
		given, back, ok := impl.PayBoth(list, nil, n)
		wantNoPair(t, payName("PayBoth of none and", list, n), given, back, ok)
		given, back, ok = impl.PayBoth([]int{1, 2}, list, n)
		wantNoPair(t, payName("PayBoth of 1+2 and", list, n), given, back, ok)
		given, back, ok = impl.PayBoth(list, list, n)
		wantNoPair(t, payName("PayBoth of twice", list, n), given, back, ok)
	}
}

// wantNoDigitsTaken checks that no function takes a text for balanced digits.
func wantNoDigitsTaken(t *testing.T, text string) {
	t.Helper()
	short := text[:min(len(text), 20)]
	n, ok := impl.NumberOfSigns(text)
	wantNoNumber(t, "NumberOfSigns "+short, n, ok)
	other, ok := impl.NegateSigns(text)
	wantNoText(t, "NegateSigns "+short, other, ok)
	for _, digits := range []string{"0", "+", "-0", text} {
		sum, ok := impl.AddSigns(text, digits)
		wantNoText(t, "AddSigns "+short+" "+digits[:min(len(digits), 20)], sum, ok)
		sum, ok = impl.AddSigns(digits, text)
		wantNoText(t, "AddSigns "+digits[:min(len(digits), 20)]+" "+short, sum, ok)
	}
}

func TestListsThatAreNoPiecesOnBothSides(t *testing.T) {
	for _, list := range [][]int{{0}, {-1}, {10001}, {2, 1}, {1, 3, 2}, {1, 0}, {0, 1}, {-5, 1}, {1, 10001}, {0, 0}, {-1, 1}, {math.MinInt}, {math.MaxInt}, {math.MinInt, math.MaxInt}, {math.MaxInt, math.MaxInt},
		repeated(0, 12), repeated(1, 21), repeated(10000, 21), repeated(1, 100000)} {
		wantNoSidePieces(t, list)
		wantNoneTogether(t, list)
	}
}

func TestPiecesThatAreTooManyOrTooLong(t *testing.T) {
	for _, list := range [][]int{repeated(1, 13), doubled(13), repeated(500, 20), repeated(1, 20)} {
		wantNoSidePieces(t, list)
		run, ok := impl.RunBoth(list)
		wantNumber(t, payName("RunBoth", list), run, ok, runOfValues(valuesBySets(list)))
		given, back, ok := impl.PayBoth(list, list, 0)
		wantPair(t, payName("PayBoth", list), given, back, ok, 0, 0)
	}
	for _, list := range [][]int{{1, 10000}, {5000, 5001}, append(tripled(9), 6561), append(repeated(500, 19), 501), repeated(10000, 12), repeated(10000, 20), {1, 3, 9, 27, 81, 160, 243, 729, 2187, 6561}} {
		wantNoneTogether(t, list)
		if len(list) > 12 {
			continue
		}
		checkBalance(t, list, totalOf(list), []string{strings.Repeat("+", len(list))})
		value, ok := impl.ValueOfSigns(list, strings.Repeat("-", len(list)))
		wantNumber(t, payName("ValueOfSigns", list), value, ok, -totalOf(list))
	}
}

func TestNumbersThatMayNotBeAskedFor(t *testing.T) {
	for _, n := range []int{-1, -2, -13, -1000000, 1000001, 1000002, 1 << 32, math.MinInt, math.MinInt + 1, math.MaxInt - 1, math.MaxInt} {
		for _, list := range [][]int{nil, {1}, {1, 1}, {1, 3, 9}, repeated(1, 12), repeated(10000, 12)} {
			wantNoBalance(t, list, n)
		}
		for _, list := range [][]int{nil, {1}, {1, 3, 9}, {10000}, repeated(500, 20)} {
			given, back, ok := impl.PayBoth(list, list, n)
			wantNoPair(t, payName("PayBoth", list, n), given, back, ok)
		}
	}
}

// signsThatAreNone returns texts of one sign, of which some would be + or - or 0 if they were cut to a byte.
func signsThatAreNone() []string {
	return []string{"1", "9", "y", "n", "x", "*", ",", ".", "/", "=", "|", " ", "\n", "\x00", "\x01", "\xff", "\x80", "\xab", "\xad", "\xb0", "\u00b1", "\u012b", "\u012d", "\u0130", "\u2212", "\u2013", "\uff0b", "\uff0d", "\uff10", "\u0660", "\ufffd", "\ufeff", "\U0001002b", "\U0001f600"}
}

func TestSignsThatAreNoneForPieces(t *testing.T) {
	for _, count := range []int{0, 1, 2, 3, 4, 5, 12} {
		list := repeated(3, count)
		wrong := []string{strings.Repeat("+", count+1), strings.Repeat("-", count+1), strings.Repeat("0", count+1), strings.Repeat("0", 13), strings.Repeat("+", 100000)}
		if count > 0 {
			wrong = append(wrong, "", strings.Repeat("+", count-1), strings.Repeat("-", count-1), strings.Repeat("0", count-1))
		}
		// Each sign stands for one piece, and for as many as it has bytes.
		for _, sign := range signsThatAreNone() {
			wrong = append(wrong, strings.Repeat("+", max(count-1, 0))+sign, sign+strings.Repeat("-", max(count-1, 0)))
			if count >= len(sign) {
				wrong = append(wrong, sign+strings.Repeat("0", count-len(sign)), strings.Repeat("+", count-len(sign))+sign, strings.Repeat("-", (count-len(sign))/2)+sign+strings.Repeat("0", (count-len(sign)+1)/2))
			}
		}
		for _, signs := range wrong {
			wantNoSigns(t, list, signs)
		}
	}
}

func TestTextsThatAreNoBalancedDigits(t *testing.T) {
	texts := []string{"", "00", "0+", "0-", "000", "00+", "0+0-", "0+++++++++++++", "0000000000000", "00000000000000", "0------------", "++++++++++++++", "--------------", "+-0+-0+-0+-0+-", "+0000000000000", "-0000000000000",
		"1", "-1", "+1", "5", "12", "+-+1", "1+-", "+ ", " +", "+ -", "+-0\n", "\n", "\t0", "0 ", " 0", "+-0\x00", strings.Repeat("+", 100000), strings.Repeat("0", 100000)}
	for _, sign := range signsThatAreNone() {
		texts = append(texts, sign, sign+"+", "+"+sign, "-0"+sign+"0", "+"+sign+"-", strings.Repeat("+", 13-min(len(sign), 13))+sign, "++++++++++++"+sign)
	}
	for _, text := range texts {
		wantNoDigitsTaken(t, text)
	}
}
