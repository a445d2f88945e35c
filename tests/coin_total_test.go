package tests

import (
	"math"
	"slices"
	"testing"

	"loop.example/g01305/impl"
)

// anyCoins returns coins and lists that are none.
func anyCoins() [][]int {
	return [][]int{{1}, {2}, {1000}, {1, 3, 4}, {2, 4, 7}, {3, 5}, {6, 9}, {997, 1000}, {1, 999, 1000}, {1, 2, 3, 4, 5, 6, 7, 8}, {993, 994, 995, 996, 997, 998, 999, 1000},
		nil, {}, {1, 2, 3, 4, 5, 6, 7, 8, 9}, repeated(1, 5000), {0}, {0, 1}, {-1}, {-1, 1}, {2, 1}, {1, 1}, {1, 3, 3}, {1001}, {1, 1001},
		{math.MinInt}, {math.MaxInt}, {math.MinInt, math.MaxInt}, {math.MaxInt, math.MaxInt}, {1, math.MaxInt}, {math.MinInt, -1, 0, 1, math.MaxInt}}
}

func anyPurses() [][]int {
	return [][]int{nil, {0}, {3}, {1000}, {0, 0}, {1, 0}, {1000, 20}, {0, 0, 0}, {1, 2, 3}, {1000, 1000, 1000}, repeated(0, 8), repeated(1, 8), repeated(1000, 8), repeated(1, 9), repeated(1000, 5000),
		{-1}, {1001}, {1, -1}, {1, 1001}, {math.MinInt}, {math.MaxInt}, {math.MaxInt, math.MinInt}, {math.MinInt, 0, math.MaxInt}}
}

func anyAmounts() []int {
	return []int{math.MinInt, math.MinInt + 1, -20000, -1, 0, 1, 2, 3, 6, 7, 8, 999, 1000, 1001, 1999, 2000, 2001, 19999, 20000, 20001, 1 << 32, 1 << 62, math.MaxInt - 1, math.MaxInt}
}

// coinFunctions returns all functions of chapter 8 that take no purse, made alike. Those that return no list return nil.
func coinFunctions() map[string]func([]int, int) []int {
	return map[string]func([]int, int) []int{
		"AreCoins":       func(l []int, n int) []int { impl.AreCoins(l); return nil },
		"GreedyChange":   func(l []int, n int) []int { r, _ := impl.GreedyChange(l, n); return r },
		"GreedyCount":    func(l []int, n int) []int { impl.GreedyCount(l, n); return nil },
		"FewestCoins":    func(l []int, n int) []int { impl.FewestCoins(l, n); return nil },
		"BestChange":     func(l []int, n int) []int { r, _ := impl.BestChange(l, n); return r },
		"CountChange":    func(l []int, n int) []int { impl.CountChange(l, n); return nil },
		"FirstFailure":   func(l []int, n int) []int { impl.FirstFailure(l); return nil },
		"IsGreedy":       func(l []int, n int) []int { impl.IsGreedy(l); return nil },
		"FailuresUpTo":   func(l []int, n int) []int { r, _ := impl.FailuresUpTo(l, n); return r },
		"GreatestUnpaid": func(l []int, n int) []int { impl.GreatestUnpaid(l); return nil },
		"CountUnpaid":    func(l []int, n int) []int { impl.CountUnpaid(l); return nil },
		"NeedlessCoins":  func(l []int, n int) []int { r, _ := impl.NeedlessCoins(l); return r },
		"MeanCoins":      func(l []int, n int) []int { impl.MeanCoins(l, n); return nil },
	}
}

func takesCoinsAlone(name string) bool {
	switch name {
	case "AreCoins", "FirstFailure", "IsGreedy", "GreatestUnpaid", "CountUnpaid", "NeedlessCoins":
		return true
	}
	return false
}

func TestNoCallOfCoinsPanicsOrModifies(t *testing.T) {
	for name, call := range coinFunctions() {
		for _, coins := range anyCoins() {
			checkCall(t, name, call, coins, 0)
			if takesCoinsAlone(name) {
				continue
			}
			for _, n := range anyAmounts() {
				checkCall(t, name, call, coins, n)
			}
		}
	}
}

// purseFunctions returns the functions of chapter 8 that take a purse, made as those of chapter 3: the purse is the one list of the plan.
func purseFunctions() map[string]payCall {
	return map[string]payCall{
		"CanChange": func(l []int, p [][]int, n, rate int) [][]int { impl.CanChange(l, p[0], n); return nil },
		"ChangeFrom": func(l []int, p [][]int, n, rate int) [][]int {
			r, _ := impl.ChangeFrom(l, p[0], n)
			return [][]int{r}
		},
	}
}

func TestNoCallOfPursesPanicsOrModifies(t *testing.T) {
	for name, call := range purseFunctions() {
		for _, coins := range anyCoins() {
			for _, purse := range anyPurses() {
				for _, n := range anyAmounts() {
					checkPayCall(t, name, call, coins, [][]int{purse}, n, 0)
				}
			}
		}
	}
}

func TestCoinsAndTheirPurseOfOneMemory(t *testing.T) {
	whole, front := withSpare([]int{1, 2, 5})
	before := slices.Clone(whole)
	change, ok := impl.ChangeFrom(front, front, 12)
	wantList(t, "ChangeFrom of one memory", change, ok, []int{0, 1, 2})
	change, ok = impl.ChangeFrom(front[:2], front[1:], 12)
	wantList(t, "ChangeFrom of lists that overlap", change, ok, []int{2, 5})
	fillAll(change)
	if !slices.Equal(whole, before) {
		t.Error("ChangeFrom modifies its arguments, or returns their memory")
	}
}
