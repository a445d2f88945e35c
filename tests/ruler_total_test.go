package tests

import (
	"math"
	"testing"

	"loop.example/g01305/impl"
)

// anyRulers returns rulers and lists that are none.
func anyRulers() [][]int {
	return [][]int{{0, 1}, {0, 60}, {0, 2}, {0, 1, 2}, {0, 1, 4, 6}, {0, 2, 5, 6}, {0, 1, 4, 9, 11}, {0, 1, 2, 3, 4, 9}, {0, 1, 59, 60}, {0, 4, 8}, allMarks(20), allMarks(60),
		nil, {}, {0}, {1}, {1, 2}, {0, 0}, {0, 0, 0}, {0, 2, 1}, {0, 3, 3}, {-1, 0, 1}, {0, -1}, {0, -1, 5}, {0, 61}, {0, 5, 61}, allMarks(61), allMarks(5000), repeated(0, 5000),
		{math.MinInt}, {math.MaxInt}, {0, math.MaxInt}, {0, math.MinInt}, {math.MinInt, math.MaxInt}, {math.MaxInt, math.MinInt}, {math.MinInt, -1, 0, 1, math.MaxInt}}
}

func anyRulerNumbers() []int {
	return []int{math.MinInt, math.MinInt + 1, -61, -60, -1, 0, 1, 2, 3, 4, 5, 6, 7, 8, 10, 11, 15, 19, 20, 21, 30, 59, 60, 61, 62, 64,
		1 << 32, 1<<60 + 1, 1 << 62, 1<<62 + 1, 6148914691236517206, math.MaxInt - 1, math.MaxInt}
}

// rulerFunctions returns all functions of chapter 5, made alike. Those that return no list return nil.
func rulerFunctions() map[string]func([]int, int) []int {
	calls := map[string]func([]int, int) []int{
		"IsRuler":        func(l []int, n int) []int { impl.IsRuler(l); return nil },
		"WaysToMeasure":  func(l []int, n int) []int { impl.WaysToMeasure(l, n); return nil },
		"IsComplete":     func(l []int, n int) []int { impl.IsComplete(l); return nil },
		"IsSparse":       func(l []int, n int) []int { impl.IsSparse(l); return nil },
		"RunOfRuler":     func(l []int, n int) []int { impl.RunOfRuler(l); return nil },
		"RulerText":      func(l []int, n int) []int { impl.RulerText(l); return nil },
		"ParseRuler":     func(l []int, n int) []int { s, _ := impl.RulerText(l); r, _ := impl.ParseRuler(s); return r },
		"FewestMarks":    func(l []int, n int) []int { impl.FewestMarks(n); return nil },
		"FirstComplete":  func(l []int, n int) []int { r, _ := impl.FirstComplete(n); return r },
		"CountComplete":  func(l []int, n int) []int { impl.CountComplete(n); return nil },
		"ShortestSparse": func(l []int, n int) []int { impl.ShortestSparse(n); return nil },
		"FirstSparse":    func(l []int, n int) []int { r, _ := impl.FirstSparse(n); return r },
	}
	for name, f := range rulerListFunctions() {
		calls[name] = func(l []int, n int) []int { r, _ := f(l); return r }
	}
	for name, f := range rulerNumberFunctions() {
		calls[name] = func(l []int, n int) []int { r, _ := f(l, n); return r }
	}
	return calls
}

// takesNoRuler tells which functions take a number alone.
func takesNoRuler(name string) bool {
	switch name {
	case "FewestMarks", "FirstComplete", "CountComplete", "ShortestSparse", "FirstSparse":
		return true
	}
	return false
}

func TestNoCallOfRulersPanicsOrModifies(t *testing.T) {
	for name, call := range rulerFunctions() {
		for _, n := range anyRulerNumbers() {
			if takesNoRuler(name) {
				checkCall(t, name, call, nil, n)
				continue
			}
			for _, marks := range anyRulers() {
				checkCall(t, name, call, marks, n)
			}
		}
	}
}

func TestParseRulerTakesAllTexts(t *testing.T) {
	checkAllTexts(t, "ParseRuler", "016|+- \n\x00\xff", 5, impl.ParseRuler, impl.RulerText)
}
