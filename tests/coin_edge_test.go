package tests

import (
	"math"
	"slices"
	"testing"

	"loop.example/g01305/impl"
)

func oneToEight() []int {
	return []int{1, 2, 3, 4, 5, 6, 7, 8}
}

// checkNamed compares greedy and best change with named ones, nil if there is none.
func checkNamed(t *testing.T, coins []int, amount int, greedy, best []int) {
	t.Helper()
	change, ok := impl.GreedyChange(coins, amount)
	n, counted := impl.GreedyCount(coins, amount)
	if greedy == nil {
		wantNoList(t, payName("GreedyChange", coins, amount), change, ok)
		wantNoNumber(t, payName("GreedyCount", coins, amount), n, counted)
	} else {
		wantList(t, payName("GreedyChange", coins, amount), change, ok, greedy)
		wantNumber(t, payName("GreedyCount", coins, amount), n, counted, totalOf(greedy))
	}
	change, ok = impl.BestChange(coins, amount)
	n, counted = impl.FewestCoins(coins, amount)
	if best == nil {
		wantNoList(t, payName("BestChange", coins, amount), change, ok)
		wantNoNumber(t, payName("FewestCoins", coins, amount), n, counted)
	} else {
		wantList(t, payName("BestChange", coins, amount), change, ok, best)
		wantNumber(t, payName("FewestCoins", coins, amount), n, counted, totalOf(best))
	}
}

func TestOneCoin(t *testing.T) {
	for _, coin := range []int{1, 2, 3, 7, 500, 999, 1000} {
		coins := []int{coin}
		for _, amount := range []int{0, 1, coin - 1, coin, coin + 1, 5 * coin, 19999, 20000} {
			n, ok := impl.CountChange(coins, amount)
			if amount%coin == 0 {
				checkNamed(t, coins, amount, []int{amount / coin}, []int{amount / coin})
				wantNumber(t, payName("CountChange", coins, amount), n, ok, 1)
			} else {
				checkNamed(t, coins, amount, nil, nil)
				wantNumber(t, payName("CountChange", coins, amount), n, ok, 0)
			}
		}
		checkFailures(t, coins, nil, 2000)
		list, ok := impl.NeedlessCoins(coins)
		wantList(t, payName("NeedlessCoins", coins), list, ok, nil)
		checkUnpaid(t, coins, unpaidBySearch(coins))
		checkFullPurse(t, coins, []int{3}, 3*coin)
		checkFullPurse(t, coins, []int{3}, 4*coin)
		checkFullPurse(t, coins, []int{3}, 2*coin+1)
	}
}

func TestMaxCoinKindsOfCoins(t *testing.T) {
	checkNamed(t, oneToEight(), 20000, []int{0, 0, 0, 0, 0, 0, 0, 2500}, []int{0, 0, 0, 0, 0, 0, 0, 2500})
	checkNamed(t, oneToEight(), 19999, []int{0, 0, 0, 0, 0, 0, 1, 2499}, []int{0, 0, 0, 0, 0, 0, 1, 2499})
	checkNamed(t, oneToEight(), 9, []int{1, 0, 0, 0, 0, 0, 0, 1}, []int{0, 0, 0, 1, 1, 0, 0, 0})
	great := []int{993, 994, 995, 996, 997, 998, 999, 1000}
	checkNamed(t, great, 20000, []int{0, 0, 0, 0, 0, 0, 0, 20}, []int{0, 0, 0, 0, 0, 0, 0, 20})
	checkNamed(t, great, 19998, []int{0, 0, 0, 0, 0, 1, 0, 19}, []int{0, 0, 0, 0, 0, 0, 2, 18})
	checkNamed(t, great, 1986, nil, []int{2, 0, 0, 0, 0, 0, 0, 0})
	checkNamed(t, great, 1993, []int{1, 0, 0, 0, 0, 0, 0, 1}, []int{0, 0, 0, 1, 1, 0, 0, 0})
	checkNamed(t, great, 2001, nil, nil)
	checkNamed(t, []int{1, 2, 5, 10, 20, 50, 100, 200}, 888, []int{1, 1, 1, 1, 1, 1, 0, 4}, []int{1, 1, 1, 1, 1, 1, 0, 4})
	checkNamed(t, []int{2, 4, 6, 8, 10, 12, 14, 16}, 19998, []int{0, 0, 0, 0, 0, 0, 1, 1249}, []int{0, 0, 0, 0, 0, 0, 1, 1249})
	checkNamed(t, []int{2, 4, 6, 8, 10, 12, 14, 16}, 19999, nil, nil)
}

func TestTheCoinMaxCoin(t *testing.T) {
	checkNamed(t, []int{1000}, 20000, []int{20}, []int{20})
	checkNamed(t, []int{1000}, 999, nil, nil)
	checkNamed(t, []int{1, 1000}, 19999, []int{999, 19}, []int{999, 19})
	checkNamed(t, []int{999, 1000}, 1999, []int{1, 1}, []int{1, 1})
	checkNamed(t, []int{999, 1000}, 1998, nil, []int{2, 0})
	checkNamed(t, []int{999, 1000}, 19980, nil, []int{20, 0})
	checkNamed(t, []int{1, 999, 1000}, 1998, []int{998, 0, 1}, []int{0, 2, 0})
	checkNamed(t, []int{1, 999, 1000}, 19999, []int{0, 1, 19}, []int{0, 1, 19})
	checkNamed(t, []int{1, 999, 1000}, 19998, []int{998, 0, 19}, []int{0, 2, 18})
}

func TestAmountsAtTheirBounds(t *testing.T) {
	for _, coins := range append(coinLists(), greatCoinLists()...) {
		none := make([]int, len(coins))
		checkNamed(t, coins, 0, none, none)
		n, ok := impl.CountChange(coins, 0)
		wantNumber(t, payName("CountChange", coins, 0), n, ok, 1)
		checkPurse(t, coins, none, 0, none)
		checkPurse(t, coins, repeated(1000, len(coins)), 0, none)
		for _, amount := range []int{1, coins[0] - 1} {
			if 0 < amount && amount < coins[0] {
				checkNamed(t, coins, amount, nil, nil)
				n, ok := impl.CountChange(coins, amount)
				wantNumber(t, payName("CountChange", coins, amount), n, ok, 0)
				checkPurse(t, coins, repeated(1000, len(coins)), amount)
			}
		}
	}
	checkNamed(t, []int{1}, 20000, []int{20000}, []int{20000})
	checkNamed(t, []int{3}, 20000, nil, nil)
	checkNamed(t, []int{1, 3}, 20000, []int{2, 6666}, []int{2, 6666})
	checkNamed(t, []int{3, 7}, 20000, nil, []int{5, 2855})
	for _, c := range []struct{ coins, purse []int }{
		{[]int{1}, []int{1000}}, {[]int{20}, []int{1000}}, {[]int{20}, []int{999}}, {[]int{1000}, []int{20}}, {[]int{1000}, []int{19}}, {[]int{1, 1000}, []int{1000, 1000}}, {[]int{1, 1000}, []int{1000, 19}},
		{[]int{1, 1000}, []int{999, 19}}, {[]int{1, 1000}, []int{1000, 18}}, {oneToEight(), repeated(1000, 8)}, {oneToEight(), repeated(555, 8)}, {oneToEight(), repeated(556, 8)}, {[]int{7, 30, 999}, []int{1000, 1000, 13}},
	} {
		checkFullPurse(t, c.coins, c.purse, 20000)
		checkFullPurse(t, c.coins, c.purse, 19999)
	}
}

func TestCoinsWithACommonDivisor(t *testing.T) {
	for _, coins := range [][]int{{2}, {1000}, {2, 4}, {6, 9}, {500, 1000}, {4, 6, 10}, {7, 14, 21, 28, 35, 42, 49, 994}} {
		greatest, ok := impl.GreatestUnpaid(coins)
		wantNoNumber(t, payName("GreatestUnpaid", coins), greatest, ok)
		count, ok := impl.CountUnpaid(coins)
		wantNoNumber(t, payName("CountUnpaid", coins), count, ok)
		checkNamed(t, coins, 1, nil, nil)
		checkNamed(t, coins, 19997, nil, nil)
	}
	checkNamed(t, []int{6, 9}, 12, nil, []int{2, 0})
	checkNamed(t, []int{4, 6, 10}, 18, nil, []int{0, 3, 0})
	checkNamed(t, []int{4, 10, 12}, 20, []int{2, 0, 1}, []int{0, 2, 0})
	checkNamed(t, []int{500, 1000}, 19500, []int{1, 19}, []int{1, 19})
}

func TestGreedyLeavesSomethingThoughThereIsChange(t *testing.T) {
	checkNamed(t, []int{3, 5}, 6, nil, []int{2, 0})
	checkNamed(t, []int{3, 5}, 9, nil, []int{3, 0})
	checkNamed(t, []int{2, 5}, 8, nil, []int{4, 0})
	checkNamed(t, []int{2, 5}, 20000, []int{0, 4000}, []int{0, 4000})
	checkNamed(t, []int{2, 5}, 19998, nil, []int{4, 3998})
	checkNamed(t, []int{4, 6, 9}, 8, nil, []int{2, 0, 0})
	checkNamed(t, []int{5, 9, 10}, 18, nil, []int{0, 2, 0})
	checkNamed(t, []int{3, 5}, 7, nil, nil)
}

func TestSeveralKindsOfChangeWithAsFewCoins(t *testing.T) {
	checkNamed(t, []int{1, 2, 3}, 4, []int{1, 0, 1}, []int{0, 2, 0})
	checkNamed(t, []int{1, 2, 3, 4}, 5, []int{1, 0, 0, 1}, []int{0, 1, 1, 0})
	checkNamed(t, []int{2, 5, 8}, 10, []int{1, 0, 1}, []int{0, 2, 0})
	checkNamed(t, []int{1, 4, 5, 6, 9}, 10, []int{1, 0, 0, 0, 1}, []int{0, 0, 2, 0, 0})
	checkNamed(t, []int{1, 2, 3, 4, 5}, 12, []int{0, 1, 0, 0, 2}, []int{0, 0, 0, 3, 0})
	checkNamed(t, []int{1, 3, 4, 6}, 13, []int{1, 0, 0, 2}, []int{0, 1, 1, 1})
	// The first change of all has more coins than these.
	checkNamed(t, []int{2, 3, 10}, 12, []int{1, 0, 1}, []int{1, 0, 1})
	checkNamed(t, []int{2, 4, 5, 7}, 13, nil, []int{0, 2, 1, 0})
}

func TestCountChangeOfManyWays(t *testing.T) {
	for _, c := range []struct {
		coins        []int
		amount, ways int
	}{
		{oneToEight(), 314, 2180760647}, {oneToEight(), 348, 4317760081}, {oneToEight(), 1000, 5573573942776}, {oneToEight(), 2118, 998214090616893}, {[]int{1, 2, 5, 10, 20, 50, 100, 200}, 9818, 999500625037575},
		{[]int{2, 3, 6, 7, 10, 12, 966}, 16123, 999999999989064}, {[]int{3, 5, 10, 14, 15, 17, 58}, 16723, 999642589220148}, {[]int{1, 5, 10, 25, 50, 100}, 20000, 4371565890901}, {[]int{2, 4, 6, 8, 10, 12, 14, 16}, 4236, 998214090616893},
		{[]int{2, 4, 6, 8, 10, 12, 14, 16}, 4237, 0}, {[]int{2, 4, 6, 8, 10, 12, 14, 16}, 19999, 0}, {[]int{1, 2, 3, 4, 5, 6}, 9701, 999810010527030}, {[]int{1}, 20000, 1}, {[]int{1, 2}, 20000, 10001}, {[]int{1, 1000}, 20000, 21}, {[]int{999, 1000}, 20000, 1}, {[]int{3, 6}, 20000, 0},
	} {
		if sums := waysBySums(c.coins, c.amount); !sums.IsInt64() || sums.Int64() != int64(c.ways) {
			t.Error("the sums do not agree:", c.coins, c.amount, sums)
		}
		n, ok := impl.CountChange(c.coins, c.amount)
		wantNumber(t, payName("CountChange", c.coins, c.amount), n, ok, c.ways)
	}
}

// Of eight coins up to 8 there are 270553675474484 ways to pay 10921, and many times 2 to the power of 64 more.
func TestCountChangeOfTooManyWays(t *testing.T) {
	for _, c := range []struct {
		coins  []int
		amount int
	}{
		{oneToEight(), 2119}, {oneToEight(), 2120}, {oneToEight(), 7855}, {oneToEight(), 8675}, {oneToEight(), 10921}, {oneToEight(), 20000}, {[]int{1, 2, 3, 4, 5, 6, 7, 9}, 19681}, {[]int{1, 2, 5, 10, 20, 50, 100, 200}, 9819},
		{[]int{2, 3, 6, 7, 10, 12, 966}, 16124}, {[]int{3, 5, 10, 14, 15, 17, 58}, 16724}, {[]int{2, 4, 6, 8, 10, 12, 14, 16}, 4238}, {[]int{2, 4, 6, 8, 10, 12, 14, 16}, 20000}, {[]int{1, 2, 3, 4, 5, 6}, 9702},
	} {
		if sums := waysBySums(c.coins, c.amount); sums.IsInt64() && sums.Int64() <= 1e15 {
			t.Error("the sums do not agree:", c.coins, c.amount, sums)
		}
		n, ok := impl.CountChange(c.coins, c.amount)
		wantNoNumber(t, payName("CountChange", c.coins, c.amount), n, ok)
	}
	n, ok := impl.FewestCoins(oneToEight(), 20000)
	wantNumber(t, "FewestCoins of very many ways", n, ok, 2500)
}

func TestNamedFailures(t *testing.T) {
	for _, coins := range [][]int{{1}, {1000}, {1, 2}, {1, 1000}, {2, 1000}, {5, 10, 50}, {1, 2, 5}, {1, 5, 10, 25, 50, 100}, {1, 2, 5, 10, 20, 50, 100, 200}, {1, 10, 100, 1000}, {1, 2, 4, 8, 16, 32, 64, 128}, oneToEight(), {500, 1000}} {
		checkFailures(t, coins, nil, 2000)
	}
	for _, c := range []struct {
		coins []int
		first int
	}{
		{[]int{2, 3}, 4}, {[]int{1, 3, 4}, 6}, {[]int{2, 5}, 6}, {[]int{3, 5}, 6}, {[]int{4, 6, 9}, 8}, {[]int{1, 5, 8}, 10}, {[]int{1, 10, 25}, 30}, {[]int{6, 9}, 12}, {[]int{3, 1000}, 1002},
		{[]int{1, 998, 1000}, 1996}, {[]int{1, 999, 1000}, 1998}, {[]int{999, 1000}, 1998}, {[]int{993, 994, 995, 996, 997, 998, 999, 1000}, 1986},
	} {
		n, ok := impl.FirstFailure(c.coins)
		wantNumber(t, payName("FirstFailure", c.coins), n, ok, c.first)
		is, ok := impl.IsGreedy(c.coins)
		wantBool(t, payName("IsGreedy", c.coins), is, ok, false)
		for _, limit := range []int{0, c.first - 1} {
			list, ok := impl.FailuresUpTo(c.coins, limit)
			wantList(t, payName("FailuresUpTo", c.coins, limit), list, ok, nil)
		}
		list, ok := impl.FailuresUpTo(c.coins, c.first)
		wantList(t, payName("FailuresUpTo", c.coins, c.first), list, ok, []int{c.first})
		checkFailures(t, c.coins, failuresBySearch(c.coins, 4000), 4000)
	}
	list, ok := impl.FailuresUpTo([]int{1, 3, 4}, 20)
	wantList(t, "FailuresUpTo 20", list, ok, []int{6, 10, 14, 18})
	list, ok = impl.FailuresUpTo([]int{2, 3}, 2000)
	if !ok || len(list) != 666 || list[665] != 1999 {
		t.Error("FailuresUpTo 2000 of 2+3:", list, ok)
	}
}

func TestNamedPurses(t *testing.T) {
	for _, c := range []struct {
		coins, purse []int
		amount       int
		first        []int
	}{
		{[]int{1, 3, 4}, []int{0, 0, 0}, 0, []int{0, 0, 0}}, {[]int{1, 3, 4}, []int{0, 0, 0}, 1, nil}, {[]int{1, 3, 4}, []int{0, 0, 0}, 20000, nil}, {[]int{1, 3, 4}, []int{5, 5, 5}, 0, []int{0, 0, 0}},
		{[]int{1, 2, 5}, []int{1, 1, 1}, 8, []int{1, 1, 1}}, {[]int{1, 2, 5}, []int{0, 1, 1}, 8, nil}, {[]int{1, 2, 5}, []int{1, 0, 1}, 8, nil}, {[]int{1, 2, 5}, []int{1, 1, 0}, 8, nil}, {[]int{1, 2, 5}, []int{1, 1, 1}, 9, nil}, {[]int{1, 2, 5}, []int{1, 1, 1}, 4, nil},
		{[]int{1, 3, 4}, []int{0, 2, 0}, 6, []int{0, 2, 0}}, {[]int{1, 3, 4}, []int{2, 0, 1}, 6, []int{2, 0, 1}}, {[]int{1, 3, 4}, []int{6, 2, 1}, 6, []int{0, 2, 0}}, {[]int{1, 3, 4}, []int{6, 1, 1}, 6, []int{2, 0, 1}}, {[]int{1, 3, 4}, []int{6, 0, 0}, 6, []int{6, 0, 0}}, {[]int{1, 3, 4}, []int{5, 0, 0}, 6, nil},
		{[]int{2, 3, 10}, []int{5, 5, 5}, 12, []int{0, 4, 0}}, {[]int{2, 3, 10}, []int{5, 3, 5}, 12, []int{1, 0, 1}}, {[]int{2, 3, 10}, []int{5, 3, 0}, 12, []int{3, 2, 0}}, {[]int{2, 3, 10}, []int{0, 3, 5}, 12, nil},
		{[]int{1, 1000}, []int{1000, 1000}, 20000, []int{0, 20}}, {[]int{1, 1000}, []int{1000, 19}, 20000, []int{1000, 19}}, {[]int{1, 1000}, []int{999, 19}, 20000, nil}, {[]int{1, 1000}, []int{1000, 18}, 20000, nil}, {[]int{1, 1000}, []int{0, 1000}, 19999, nil},
		{[]int{20}, []int{1000}, 20000, []int{1000}}, {[]int{20}, []int{999}, 20000, nil}, {[]int{1}, []int{1000}, 1000, []int{1000}}, {[]int{1}, []int{1000}, 1001, nil}, {oneToEight(), repeated(1000, 8), 20000, []int{0, 0, 0, 0, 0, 836, 1000, 998}}, {oneToEight(), repeated(1, 8), 36, repeated(1, 8)}, {oneToEight(), repeated(1, 8), 37, nil},
	} {
		if !slices.Equal(c.first, firstFromPurse(c.coins, c.purse, c.amount)) {
			t.Error("the search does not agree:", c.coins, c.purse, c.amount)
		}
		checkFullPurse(t, c.coins, c.purse, c.amount)
	}
}

func TestListsThatAreCoins(t *testing.T) {
	for _, coins := range append(coinLists(), greatCoinLists()...) {
		if !impl.AreCoins(coins) {
			t.Error("AreCoins does not take", coins)
		}
	}
}

// wantNoAmount checks that no function takes coins with an amount.
func wantNoAmount(t *testing.T, coins []int, amount int) {
	t.Helper()
	checkNamed(t, coins, amount, nil, nil)
	n, ok := impl.CountChange(coins, amount)
	wantNoNumber(t, payName("CountChange", coins, amount), n, ok)
	wantNoPurse(t, coins, make([]int, len(coins)), amount)
	wantNoPurse(t, coins, repeated(1000, len(coins)), amount)
}

// wantNoPurse checks that no function takes coins with a purse and an amount.
func wantNoPurse(t *testing.T, coins, purse []int, amount int) {
	t.Helper()
	name := payName(" and", purse, amount)
	can, ok := impl.CanChange(coins, purse, amount)
	wantNoBool(t, payName("CanChange", coins)+name, can, ok)
	change, ok := impl.ChangeFrom(coins, purse, amount)
	wantNoList(t, payName("ChangeFrom", coins)+name, change, ok)
}

// wantNoLimit checks that no function takes coins with a limit, of at least 0 or of at least 1.
func wantNoLimit(t *testing.T, coins []int, limit int) {
	t.Helper()
	list, ok := impl.FailuresUpTo(coins, limit)
	wantNoList(t, payName("FailuresUpTo", coins, limit), list, ok)
	a, b, ok := impl.MeanCoins(coins, limit)
	wantNoPair(t, payName("MeanCoins", coins, limit), a, b, ok)
}

func TestListsThatAreNoCoins(t *testing.T) {
	for _, coins := range [][]int{
		nil, {}, {1, 2, 3, 4, 5, 6, 7, 8, 9}, repeated(1, 9), repeated(1, 5000), {0}, {0, 1}, {-1}, {-1, 1}, {1001}, {1, 1001}, {1000, 1001}, {1, 1}, {1, 2, 2}, {2, 2, 3}, {1000, 1000}, {2, 1}, {1, 3, 2}, {5, 4, 3, 2, 1},
		{math.MinInt}, {math.MaxInt}, {math.MinInt, 1}, {1, math.MaxInt}, {math.MaxInt, math.MinInt}, {math.MinInt, math.MaxInt},
	} {
		if impl.AreCoins(coins) {
			t.Error("AreCoins takes", coins[:min(len(coins), 10)])
		}
		for _, amount := range []int{0, 1, 2, 7, 1001, impl.MaxAmount} {
			wantNoAmount(t, coins, amount)
		}
		for _, limit := range []int{0, 1, 2, 7, 1001, 2000} {
			wantNoLimit(t, coins, limit)
		}
		n, ok := impl.FirstFailure(coins)
		wantNoNumber(t, payName("FirstFailure", coins), n, ok)
		is, ok := impl.IsGreedy(coins)
		wantNoBool(t, payName("IsGreedy", coins), is, ok)
		n, ok = impl.GreatestUnpaid(coins)
		wantNoNumber(t, payName("GreatestUnpaid", coins), n, ok)
		n, ok = impl.CountUnpaid(coins)
		wantNoNumber(t, payName("CountUnpaid", coins), n, ok)
		list, ok := impl.NeedlessCoins(coins)
		wantNoList(t, payName("NeedlessCoins", coins), list, ok)
	}
}

func validCoins() [][]int {
	return [][]int{{1}, {2}, {1000}, {1, 3, 4}, {2, 4, 7}, {1, 2, 5}, {999, 1000}, oneToEight()}
}

func TestAmountsThatAreNone(t *testing.T) {
	for _, coins := range validCoins() {
		for _, amount := range []int{-1, -2, -1000, -20000, 20001, 20002, 21000, 1 << 32, 1 << 62, math.MinInt, math.MinInt + 1, math.MaxInt - 1, math.MaxInt} {
			wantNoAmount(t, coins, amount)
		}
	}
}

func TestLimitsThatAreNone(t *testing.T) {
	for _, coins := range validCoins() {
		for _, limit := range []int{-1, -2, -2000, 2001, 2002, 20000, 1 << 32, 1 << 62, math.MinInt, math.MaxInt} {
			wantNoLimit(t, coins, limit)
		}
		a, b, ok := impl.MeanCoins(coins, 0)
		wantNoPair(t, payName("MeanCoins", coins, 0), a, b, ok)
		list, ok := impl.FailuresUpTo(coins, 0)
		wantList(t, payName("FailuresUpTo", coins, 0), list, ok, nil)
	}
}

func TestPursesThatAreNone(t *testing.T) {
	for _, coins := range validCoins() {
		kinds := len(coins)
		purses := [][]int{nil, repeated(1, kinds-1), repeated(1, kinds+1), repeated(0, kinds+1), repeated(1, 8+1), repeated(0, 5000)}
		for kind := range kinds {
			for _, wrong := range []int{-1, 1001, -1000, 20000, math.MinInt, math.MaxInt} {
				purse := repeated(1, kinds)
				purse[kind] = wrong
				purses = append(purses, purse)
			}
		}
		for _, purse := range purses {
			for _, amount := range []int{0, 1, 2, coins[0], impl.MaxAmount, -1, 20001} {
				wantNoPurse(t, coins, purse, amount)
			}
		}
	}
}
