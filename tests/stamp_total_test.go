package tests

import (
	"math"
	"testing"

	"loop.example/g01305/impl"
)

// anyStamps returns stamps and lists that are none.
func anyStamps() [][]int {
	return [][]int{{1}, {2}, {500}, {1, 3}, {2, 3}, {1, 5, 8}, {499, 500}, {1, 2, 3, 4, 5}, {1, 7, 12, 43, 52}, {1, 2, 3, 4, 5, 6}, {495, 496, 497, 498, 499, 500},
		nil, {}, {1, 2, 3, 4, 5, 6, 7}, repeated(1, 5000), {0}, {0, 1}, {-1}, {-1, 1}, {2, 1}, {1, 1}, {1, 3, 3}, {501}, {1, 501},
		{math.MinInt}, {math.MaxInt}, {math.MinInt, math.MaxInt}, {math.MaxInt, math.MaxInt}, {1, math.MaxInt}, {math.MinInt, -1, 0, 1, math.MaxInt}}
}

func anyStampNumbers() []int {
	return []int{math.MinInt, math.MinInt + 1, -4000, -1, 0, 1, 2, 3, 4, 5, 6, 7, 8, 9, 63, 64, 3999, 4000, 4001, 1 << 62, math.MaxInt}
}

type stampCall func(stamps []int, room, n int) []int

// stampFunctions returns all functions of chapter 4, made alike. Those that return no list return nil.
func stampFunctions() map[string]stampCall {
	return map[string]stampCall{
		"AreStamps":      func(l []int, room, n int) []int { impl.AreStamps(l); return nil },
		"CanStamp":       func(l []int, room, n int) []int { impl.CanStamp(l, room, n); return nil },
		"ReachOf":        func(l []int, room, n int) []int { impl.ReachOf(l, room); return nil },
		"FewestStamps":   func(l []int, room, n int) []int { impl.FewestStamps(l, n); return nil },
		"FirstStamps":    func(l []int, room, n int) []int { r, _ := impl.FirstStamps(l, room, n); return r },
		"CountStampWays": func(l []int, room, n int) []int { impl.CountStampWays(l, room, n); return nil },
		"ValuesOf":       func(l []int, room, n int) []int { r, _ := impl.ValuesOf(l, room); return r },
		"ValuesWith":     func(l []int, room, n int) []int { r, _ := impl.ValuesWith(l, room); return r },
		"NextStamp":      func(l []int, room, n int) []int { impl.NextStamp(l, room); return nil },
		"BestReach":      func(l []int, room, n int) []int { impl.BestReach(n, room); return nil },
		"FirstBest":      func(l []int, room, n int) []int { r, _ := impl.FirstBest(n, room); return r },
		"CountBest":      func(l []int, room, n int) []int { impl.CountBest(n, room); return nil },
		"NeedlessStamps": func(l []int, room, n int) []int { r, _ := impl.NeedlessStamps(l, room); return r },
		"RoomFor":        func(l []int, room, n int) []int { impl.RoomFor(l, n); return nil },
	}
}

// ofTwoNumbers tells which functions take a room and another number.
func ofTwoNumbers(name string) bool {
	switch name {
	case "CanStamp", "FirstStamps", "CountStampWays", "BestReach", "FirstBest", "CountBest":
		return true
	}
	return false
}

func TestNoCallOfStampsPanicsOrModifies(t *testing.T) {
	for name, call := range stampFunctions() {
		for _, stamps := range anyStamps() {
			for _, n := range anyStampNumbers() {
				checkCall(t, payName(name, nil, n), func(l []int, n int) []int { return call(l, n, n) }, stamps, n)
				if !ofTwoNumbers(name) {
					continue
				}
				for _, room := range anyStampNumbers() {
					checkCall(t, payName(name, nil, room), func(l []int, n int) []int { return call(l, room, n) }, stamps, n)
				}
			}
		}
	}
}
