package tests

import (
	"math"
	"testing"

	"loop.example/g01305/impl"
)

func anyLinks() []int {
	return append(anyNumbers(), 6, 8, 23, 62, 63, 64, 999, 1000, 1001, -63, 10239, 99999)
}

// anyCuts returns lists that are cuts of some chains or of none.
func anyCuts() [][]int {
	return [][]int{nil, {}, {0}, {1}, {2}, {3, 10}, {0, 1}, {4, 13, 30}, {0, 62}, {0, 999}, {0, 1, 2, 3, 4, 5, 6, 7, 8}, {1, 2, 3, 4, 5, 6, 7, 8, 9},
		{1, 3, 7, 16, 33, 66, 131, 260, 517}, {0, 1, 2, 3, 4, 5, 6, 7, 8, 9}, {2, 1}, {2, 2}, {-1}, {-1, 5}, {1000}, {100, 3, 5, 1, 60},
		repeated(1, 12), repeated(100, 12), repeated(3, 13), repeated(0, 20), repeated(7, 5000),
		{math.MinInt}, {math.MaxInt}, {math.MinInt, math.MaxInt}, {math.MaxInt, math.MinInt}, {0, math.MaxInt, 1}}
}

// linkedFunctions returns all functions of chapter 2, made alike. Those that return no list return nil.
func linkedFunctions() map[string]func([]int, int) []int {
	calls := map[string]func([]int, int) []int{
		"AreCuts":        func(l []int, n int) []int { impl.AreCuts(n, l); return nil },
		"DoCutsPay":      func(l []int, n int) []int { impl.DoCutsPay(n, l); return nil },
		"RunOfCuts":      func(l []int, n int) []int { impl.RunOfCuts(n, l); return nil },
		"MostLinks":      func(l []int, n int) []int { impl.MostLinks(n); return nil },
		"FewestCuts":     func(l []int, n int) []int { impl.FewestCuts(n); return nil },
		"CutsForMost":    func(l []int, n int) []int { r, _ := impl.CutsForMost(n); return r },
		"FirstCuts":      func(l []int, n int) []int { r, _ := impl.FirstCuts(n); return r },
		"MostRing":       func(l []int, n int) []int { impl.MostRing(n); return nil },
		"FewestRingCuts": func(l []int, n int) []int { impl.FewestRingCuts(n); return nil },
		"FewestToJoin":   func(l []int, n int) []int { impl.FewestToJoin(l); return nil },
	}
	for name, f := range cutFunctions() {
		calls[name] = func(l []int, n int) []int { r, _ := f(n, l); return r }
	}
	return calls
}

func TestNoCallOfChainsPanicsOrModifies(t *testing.T) {
	for name, call := range linkedFunctions() {
		for _, cuts := range anyCuts() {
			for _, links := range anyLinks() {
				checkCall(t, name, call, cuts, links)
			}
		}
	}
	for _, links := range anyLinks() {
		impl.CountCuts(links)
	}
}
