package tests

import (
	"math"
	"slices"
	"strings"
	"testing"

	"loop.example/g01305/impl"
)

func anySideNumbers() []int {
	return []int{math.MinInt, math.MinInt + 1, -1000001, -1000000, -5, -1, 0, 1, 2, 4, 5, 7, 9840, 9841, 9842, 10000, 120000, 120001, 797161, 797162, 999999, 1000000, 1000001, 1 << 62, math.MaxInt - 1, math.MaxInt}
}

func anySigns() []string {
	return []string{"", "0", "+", "-", "+-", "00", "0+", "-0+", "++0", "----", "+++++++++++++", "-------------", "++++++++++++++", strings.Repeat("0", 12), strings.Repeat("+", 12), strings.Repeat("-", 300),
		"x", "1", "+1", "\x00", "\xff", "+\xff", "\u00b1", "\u2212", "+\u2212", "0\x00-"}
}

// sideFunctions returns all functions of chapter 7 that take pieces, a number or a text, made alike. Those that return no list return nil.
func sideFunctions(signs string) map[string]func([]int, int) []int {
	return map[string]func([]int, int) []int{
		"CanBalance":    func(l []int, n int) []int { impl.CanBalance(l, n); return nil },
		"WaysBoth":      func(l []int, n int) []int { impl.WaysBoth(l, n); return nil },
		"FirstBoth":     func(l []int, n int) []int { impl.FirstBoth(l, n); return nil },
		"FewestBoth":    func(l []int, n int) []int { impl.FewestBoth(l, n); return nil },
		"ValueOfSigns":  func(l []int, n int) []int { impl.ValueOfSigns(l, signs); return nil },
		"OtherSigns":    func(l []int, n int) []int { impl.OtherSigns(l, signs); return nil },
		"RunBoth":       func(l []int, n int) []int { impl.RunBoth(l); return nil },
		"GapsBoth":      func(l []int, n int) []int { r, _ := impl.GapsBoth(l); return r },
		"CountBoth":     func(l []int, n int) []int { impl.CountBoth(l); return nil },
		"BestBoth":      func(l []int, n int) []int { impl.BestBoth(l); return nil },
		"PiecesForRun":  func(l []int, n int) []int { r, _ := impl.PiecesForRun(n); return r },
		"BalancedOf":    func(l []int, n int) []int { impl.BalancedOf(n); return nil },
		"NumberOfSigns": func(l []int, n int) []int { impl.NumberOfSigns(signs); return nil },
		"NegateSigns":   func(l []int, n int) []int { impl.NegateSigns(signs); return nil },
	}
}

func takesSigns(name string) bool {
	switch name {
	case "ValueOfSigns", "OtherSigns", "NumberOfSigns", "NegateSigns":
		return true
	}
	return false
}

func takesSidesAndNumber(name string) bool {
	switch name {
	case "CanBalance", "WaysBoth", "FirstBoth", "FewestBoth":
		return true
	}
	return false
}

func TestNoCallOfBothSidesPanicsOrModifies(t *testing.T) {
	for name, call := range sideFunctions("") {
		for _, list := range anyLists() {
			checkCall(t, name, call, list, 0)
			if !takesSidesAndNumber(name) {
				continue
			}
			for _, n := range anySideNumbers() {
				checkCall(t, name, call, list, n)
			}
		}
		for _, n := range anySideNumbers() {
			checkCall(t, name, call, nil, n)
		}
	}
}

func TestNoCallWithSignsPanicsOrModifies(t *testing.T) {
	for _, signs := range anySigns() {
		for name, call := range sideFunctions(signs) {
			if !takesSigns(name) {
				continue
			}
			for _, list := range anyLists() {
				checkCall(t, name, call, list, 0)
			}
		}
		for _, other := range anySigns() {
			checkCall(t, "AddSigns", func(l []int, n int) []int { impl.AddSigns(signs, other); return nil }, nil, 0)
		}
	}
}

func TestNoPaymentPanicsOrModifies(t *testing.T) {
	pay := func(mine []int, plan [][]int, n, rate int) [][]int { impl.PayBoth(mine, plan[0], n); return nil }
	for _, mine := range anyLists() {
		for _, theirs := range anyLists() {
			for _, n := range anySideNumbers() {
				checkPayCall(t, "PayBoth", pay, mine, [][]int{theirs}, n, 0)
			}
		}
	}
	one := []int{1, 1, 2, 6}
	whole, front := withSpare(one)
	before := slices.Clone(whole)
	given, back, ok := impl.PayBoth(front, front[:2], 4)
	wantPair(t, "PayBoth of one memory", given, back, ok, 4, 0)
	if !slices.Equal(whole, before) {
		t.Error("PayBoth modifies its argument")
	}
}

func TestNumberOfSignsTakesAllTexts(t *testing.T) {
	checkAllTexts(t, "NumberOfSigns", "+-0", 9, impl.NumberOfSigns, impl.BalancedOf)
	checkAllTexts(t, "NumberOfSigns", "+-01 \n\x00\xff", 5, impl.NumberOfSigns, impl.BalancedOf)
}
