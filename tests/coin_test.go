package tests

import (
	"slices"
	"testing"

	"loop.example/g01305/impl"
)

func TestCoinExamples(t *testing.T) {
	list, ok := impl.GreedyChange([]int{1, 3, 4}, 6)
	wantList(t, "GreedyChange", list, ok, []int{2, 0, 1})
	n, ok := impl.GreedyCount([]int{1, 3, 4}, 6)
	wantNumber(t, "GreedyCount", n, ok, 3)
	list, ok = impl.BestChange([]int{1, 3, 4}, 6)
	wantList(t, "BestChange", list, ok, []int{0, 2, 0})
	n, ok = impl.FewestCoins([]int{1, 3, 4}, 6)
	wantNumber(t, "FewestCoins", n, ok, 2)
	n, ok = impl.FirstFailure([]int{1, 3, 4})
	wantNumber(t, "FirstFailure", n, ok, 6)
	n, ok = impl.FirstFailure([]int{1, 2, 5})
	wantNoNumber(t, "FirstFailure of 1, 2 and 5", n, ok)
	is, ok := impl.IsGreedy([]int{1, 2, 5})
	wantBool(t, "IsGreedy", is, ok, true)
	n, ok = impl.GreatestUnpaid([]int{3, 5})
	wantNumber(t, "GreatestUnpaid", n, ok, 7)
	n, ok = impl.CountUnpaid([]int{3, 5})
	wantNumber(t, "CountUnpaid", n, ok, 4)
	n, ok = impl.CountChange([]int{1, 2, 5}, 5)
	wantNumber(t, "CountChange", n, ok, 4)
	list, ok = impl.NeedlessCoins([]int{2, 4, 7})
	wantList(t, "NeedlessCoins", list, ok, []int{4})
}

// checkComes checks that change comes to its amount.
func checkComes(t *testing.T, name string, coins, change []int, amount int) {
	t.Helper()
	if len(change) != len(coins) || slices.Min(change) < 0 || valueOfCounts(coins, change) != amount {
		t.Errorf("%s: %v does not come to %d", name, change, amount)
	}
}

// checkGreedy compares greedy change with coins that are laid one after the other.
func checkGreedy(t *testing.T, coins []int, amount int) {
	t.Helper()
	want, left := greedyBySearch(coins, amount)
	change, ok := impl.GreedyChange(coins, amount)
	n, counted := impl.GreedyCount(coins, amount)
	if left > 0 {
		wantNoList(t, payName("GreedyChange", coins, amount), change, ok)
		wantNoNumber(t, payName("GreedyCount", coins, amount), n, counted)
		return
	}
	wantList(t, payName("GreedyChange", coins, amount), change, ok, want)
	checkComes(t, payName("GreedyChange", coins, amount), coins, change, amount)
	wantNumber(t, payName("GreedyCount", coins, amount), n, counted, totalOf(want))
}

// checkChange compares what is told of an amount with all change for it.
func checkChange(t *testing.T, coins []int, amount int, all [][]int) {
	t.Helper()
	n, ok := impl.CountChange(coins, amount)
	wantNumber(t, payName("CountChange", coins, amount), n, ok, len(all))
	n, ok = impl.FewestCoins(coins, amount)
	change, is := impl.BestChange(coins, amount)
	if len(all) == 0 {
		wantNoNumber(t, payName("FewestCoins", coins, amount), n, ok)
		wantNoList(t, payName("BestChange", coins, amount), change, is)
		return
	}
	best := fewestChange(all)
	wantNumber(t, payName("FewestCoins", coins, amount), n, ok, totalOf(best))
	wantList(t, payName("BestChange", coins, amount), change, is, best)
	checkComes(t, payName("BestChange", coins, amount), coins, change, amount)
}

func TestChangeIsThatOfTheSearch(t *testing.T) {
	for _, coins := range coinLists() {
		all := allChange(coins, nil, 40)
		for amount := range 41 {
			checkChange(t, coins, amount, all[amount])
			checkGreedy(t, coins, amount)
		}
	}
}

func TestFewestCoinsOfGreatCoins(t *testing.T) {
	for _, coins := range greatCoinLists() {
		fewest := fewestByLetters(coins, impl.MaxAmount)
		for _, amount := range []int{0, 1, coins[0] - 1, coins[0], 2 * coins[0], 997, 1000, 1001, 1998, 1999, 2000, 12345, impl.MaxAmount - 1, impl.MaxAmount} {
			checkGreedy(t, coins, amount)
			n, ok := impl.FewestCoins(coins, amount)
			change, is := impl.BestChange(coins, amount)
			if fewest[amount] < 0 {
				wantNoNumber(t, payName("FewestCoins", coins, amount), n, ok)
				wantNoList(t, payName("BestChange", coins, amount), change, is)
				continue
			}
			wantNumber(t, payName("FewestCoins", coins, amount), n, ok, fewest[amount])
			checkComes(t, payName("BestChange", coins, amount), coins, change, amount)
			wantNumber(t, payName("BestChange has the fewest", coins, amount), totalOf(change), is, fewest[amount])
		}
	}
}

// checkFailures compares failures with all up to top that there are: these tell whether there is one at all.
func checkFailures(t *testing.T, coins, failures []int, top int) {
	t.Helper()
	n, ok := impl.FirstFailure(coins)
	is, asked := impl.IsGreedy(coins)
	wantBool(t, payName("IsGreedy", coins), is, asked, len(failures) == 0)
	limits := []int{0, min(top, 2000)}
	if len(failures) == 0 {
		wantNoNumber(t, payName("FirstFailure", coins), n, ok)
	} else {
		wantNumber(t, payName("FirstFailure", coins), n, ok, failures[0])
		limits = append(limits, failures[0]-1, failures[0], failures[0]+1)
	}
	for _, limit := range limits {
		list, ok := impl.FailuresUpTo(coins, limit)
		wantList(t, payName("FailuresUpTo", coins, limit), list, ok, upTo(failures, limit))
	}
}

func TestFailuresAreThoseOfTheSearch(t *testing.T) {
	for _, coins := range coinLists() {
		checkFailures(t, coins, failuresBySearch(coins, 2100), 2100)
		failures := []int{}
		all := allChange(coins, nil, 40)
		for amount := range 41 {
			greedy, left := greedyBySearch(coins, amount)
			if all[amount] != nil && (left > 0 || totalOf(greedy) > totalOf(fewestChange(all[amount]))) {
				failures = append(failures, amount)
			}
		}
		checkFailures(t, coins, failures, 40)
	}
	for _, coins := range greatCoinLists() {
		checkFailures(t, coins, failuresBySearch(coins, 6000), 6000)
	}
}

// A purse in the search has few coins of each kind, so that some amounts just come out, and some do not.
func TestChangeFromPursesIsThatOfTheSearch(t *testing.T) {
	z := 11111
	for k, coins := range coinLists() {
		purse := []int{}
		for range coins {
			z = (z*1103515245 + 12345) % (1 << 31)
			purse = append(purse, z>>8%(2+k%4))
		}
		top := valueOfCounts(coins, purse) + 5
		if len(coins) > 5 {
			top = min(top, 45)
		}
		all := allChange(coins, purse, top)
		for amount := range top + 1 {
			checkPurse(t, coins, purse, amount, all[amount]...)
		}
	}
}

// checkPurse compares what is told of a purse with all change by its coins, or with the first change alone.
func checkPurse(t *testing.T, coins, purse []int, amount int, all ...[]int) {
	t.Helper()
	name := payName(" and", purse, amount)
	can, ok := impl.CanChange(coins, purse, amount)
	wantBool(t, payName("CanChange", coins)+name, can, ok, len(all) > 0)
	change, ok := impl.ChangeFrom(coins, purse, amount)
	if len(all) == 0 {
		wantNoList(t, payName("ChangeFrom", coins)+name, change, ok)
		return
	}
	wantList(t, payName("ChangeFrom", coins)+name, change, ok, all[0])
	checkComes(t, payName("ChangeFrom", coins)+name, coins, change, amount)
}

// checkFullPurse compares what is told of a purse, perhaps with very many coins, with the first change by sets of sums.
func checkFullPurse(t *testing.T, coins, purse []int, amount int) {
	t.Helper()
	first := firstFromPurse(coins, purse, amount)
	if first == nil {
		checkPurse(t, coins, purse, amount)
	} else {
		checkPurse(t, coins, purse, amount, first)
	}
}

func TestUnpaidAmountsAreThoseOfTheSearch(t *testing.T) {
	for _, coins := range coinLists() {
		unpaid := unpaidBySearch(coins)
		all := allChange(coins, nil, 30)
		for amount := range min(31, coins[0]*coins[len(coins)-1]+1) {
			if slices.Contains(unpaid, amount) != (all[amount] == nil) {
				t.Fatal("the searches do not agree:", coins, amount)
			}
		}
		checkUnpaid(t, coins, unpaid)
	}
}

// checkUnpaid compares what is told of the amounts without change with all of them, where the coins have no common divisor.
func checkUnpaid(t *testing.T, coins, unpaid []int) {
	t.Helper()
	greatest, ok := impl.GreatestUnpaid(coins)
	count, counted := impl.CountUnpaid(coins)
	if haveDivisor(coins...) {
		wantNoNumber(t, payName("GreatestUnpaid", coins), greatest, ok)
		wantNoNumber(t, payName("CountUnpaid", coins), count, counted)
		return
	}
	wantNumber(t, payName("GreatestUnpaid", coins), greatest, ok, append([]int{-1}, unpaid...)[len(unpaid)])
	wantNumber(t, payName("CountUnpaid", coins), count, counted, len(unpaid))
}

func TestUnpaidAmountsOfGreatCoins(t *testing.T) {
	for _, coins := range greatCoinLists() {
		if coins[0]*coins[len(coins)-1] < 300000 {
			checkUnpaid(t, coins, unpaidBySearch(coins))
		}
	}
	for _, c := range []struct {
		coins           []int
		greatest, count int
	}{
		{[]int{1}, -1, 0}, {[]int{1, 2}, -1, 0}, {[]int{1, 1000}, -1, 0}, {[]int{1, 2, 3, 4, 5, 6, 7, 1000}, -1, 0}, {[]int{2, 3}, 1, 1}, {[]int{2, 999}, 997, 499}, {[]int{2, 4, 999}, 997, 499},
		{[]int{999, 1000}, 999*1000 - 999 - 1000, 998 * 999 / 2}, {[]int{998, 999}, 998*999 - 998 - 999, 997 * 998 / 2}, {[]int{997, 1000}, 997*1000 - 997 - 1000, 996 * 999 / 2}, {[]int{998, 999, 1000}, 498001, 249001},
		{[]int{6, 10, 15}, 29, 15}, {[]int{6, 9, 20}, 43, 22}, {[]int{4, 6, 9}, 11, 6},
	} {
		n, ok := impl.GreatestUnpaid(c.coins)
		wantNumber(t, payName("GreatestUnpaid", c.coins), n, ok, c.greatest)
		n, ok = impl.CountUnpaid(c.coins)
		wantNumber(t, payName("CountUnpaid", c.coins), n, ok, c.count)
	}
}

// checkNeedlessCoins compares needless coins with those that are sums of the others.
func checkNeedlessCoins(t *testing.T, coins []int) {
	t.Helper()
	needless := []int{}
	for kind, coin := range coins {
		others := slices.Delete(slices.Clone(coins), kind, kind+1)
		if fewestByLetters(others, coin)[coin] >= 0 {
			needless = append(needless, coin)
		}
	}
	list, ok := impl.NeedlessCoins(coins)
	wantList(t, payName("NeedlessCoins", coins), list, ok, needless)
}

func TestNeedlessCoinsAreSumsOfTheOthers(t *testing.T) {
	for _, coins := range append(coinLists(), greatCoinLists()...) {
		checkNeedlessCoins(t, coins)
	}
	for _, c := range []struct{ coins, needless []int }{
		{[]int{1}, nil}, {[]int{2}, nil}, {[]int{1000}, nil}, {[]int{1, 2}, []int{2}}, {[]int{2, 3}, nil}, {[]int{1, 2, 3, 4, 5, 6, 7, 8}, []int{2, 3, 4, 5, 6, 7, 8}}, {[]int{5, 10, 15, 1000}, []int{10, 15, 1000}},
		{[]int{8, 9, 10, 11, 12, 13, 14, 15}, nil}, {[]int{993, 994, 995, 996, 997, 998, 999, 1000}, nil}, {[]int{2, 4, 7}, []int{4}}, {[]int{3, 5, 8}, []int{8}}, {[]int{3, 5, 7}, nil}, {[]int{2, 4, 6, 9}, []int{4, 6}}, {[]int{499, 501, 1000}, []int{1000}},
	} {
		list, ok := impl.NeedlessCoins(c.coins)
		wantList(t, payName("NeedlessCoins", c.coins), list, ok, c.needless)
	}
}

func TestMeansAreThoseOfTheSearch(t *testing.T) {
	for _, coins := range append(coinLists(), greatCoinLists()...) {
		fewest := fewestByLetters(coins, 2000)
		for _, limit := range []int{1, 2, 3, 7, 12, 100, 1999, 2000} {
			a, b, ok := impl.MeanCoins(coins, limit)
			if slices.Contains(fewest[:limit+1], -1) {
				wantNoPair(t, payName("MeanCoins", coins, limit), a, b, ok)
				continue
			}
			total := totalOf(fewest[:limit+1])
			if !ok || b < 1 || a*limit != b*total || haveDivisor(a, b) {
				t.Errorf("%s: got %d, %d, %v; want %d of %d in lowest terms", payName("MeanCoins", coins, limit), a, b, ok, total, limit)
			}
		}
	}
}

func TestNamedMeans(t *testing.T) {
	for _, c := range []struct {
		coins       []int
		limit, a, b int
	}{
		{[]int{1}, 1, 1, 1}, {[]int{1, 1000}, 1, 1, 1}, {[]int{1}, 2, 3, 2}, {[]int{1}, 3, 2, 1}, {[]int{1}, 2000, 2001, 2}, {[]int{1}, 1999, 1000, 1}, {[]int{1, 2}, 2, 1, 1}, {[]int{1, 3, 4}, 6, 3, 2},
		{[]int{1, 2, 5}, 5, 7, 5}, {[]int{1, 2, 5}, 10, 19, 10}, {[]int{1, 2, 3, 4, 5, 6, 7, 8}, 8, 1, 1}, {[]int{1, 2, 3, 4, 5, 6, 7, 8}, 16, 3, 2}, {[]int{1, 1000}, 2000, 500001, 1000}, {[]int{1, 999, 1000}, 1000, 498503, 1000},
	} {
		a, b, ok := impl.MeanCoins(c.coins, c.limit)
		wantPair(t, payName("MeanCoins", c.coins, c.limit), a, b, ok, c.a, c.b)
	}
	for _, coins := range [][]int{{2}, {2, 3}, {1000}, {2, 4, 6}, {2, 3, 4, 5, 6, 7, 8, 9}} {
		for _, limit := range []int{1, 2, 999, 1000, 2000} {
			a, b, ok := impl.MeanCoins(coins, limit)
			wantNoPair(t, payName("MeanCoins", coins, limit), a, b, ok)
		}
	}
}
