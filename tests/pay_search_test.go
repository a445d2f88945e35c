package tests

import (
	"slices"
	"strconv"
	"strings"
)

// The searches here try all plans, told by lists of indices. They share nothing with the program.

// eachWay visits all lists of indices of so many pieces in lexicographic order.
func eachWay(pieces int, visit func(way []int)) {
	var choose func(way []int, from int)
	choose = func(way []int, from int) {
		visit(slices.Clone(way))
		for i := from; i < pieces; i++ {
			choose(append(slices.Clone(way), i), i+1)
		}
	}
	choose(nil, 0)
}

// eachPlan visits all plans of so many pieces and days in lexicographic order, whatever they pay.
func eachPlan(pieces, days int, visit func(plan [][]int)) {
	var choose func(plan [][]int)
	choose = func(plan [][]int) {
		if len(plan) == days {
			visit(plan)
			return
		}
		eachWay(pieces, func(way []int) { choose(append(slices.Clone(plan), way)) })
	}
	choose(nil)
}

func sumAt(list []int, way []int) int {
	sum := 0
	for _, i := range way {
		sum += list[i]
	}
	return sum
}

func paysByRate(list []int, plan [][]int, rate int) bool {
	for day, way := range plan {
		if sumAt(list, way) != rate*(day+1) {
			return false
		}
	}
	return true
}

// behindDay returns what is held behind a day: nothing before the first one.
func behindDay(plan [][]int, day int) []int {
	if day < 0 {
		return nil
	}
	return plan[day]
}

// without returns the indices of one way that another one does not have.
func without(way, other []int) []int {
	return slices.DeleteFunc(slices.Clone(way), func(i int) bool { return slices.Contains(other, i) })
}

func givenBySearch(plan [][]int, day int) []int {
	return without(behindDay(plan, day), behindDay(plan, day-1))
}

func takenBySearch(plan [][]int, day int) []int {
	return without(behindDay(plan, day-1), behindDay(plan, day))
}

func movesBySearch(plan [][]int) int {
	moves := 0
	for day := range plan {
		moves += len(givenBySearch(plan, day)) + len(takenBySearch(plan, day))
	}
	return moves
}

// payingPlans returns all plans that pay, in lexicographic order, out of all plans that there are.
func payingPlans(list []int, days, rate int) [][][]int {
	paying := [][][]int{}
	eachPlan(len(list), days, func(plan [][]int) {
		if paysByRate(list, plan, rate) {
			paying = append(paying, plan)
		}
	})
	return paying
}

// payingPlansByWays returns the same plans, made of the ways of each day alone, which allows more pieces and days.
// It gives up and returns false if there are too many.
func payingPlansByWays(list []int, days, rate int) ([][][]int, bool) {
	ways := searchWays(list)
	plans := [][][]int{{}}
	for day := range days {
		longer := [][][]int{}
		for _, plan := range plans {
			for _, way := range ways[rate*(day+1)] {
				longer = append(longer, append(slices.Clone(plan), way))
			}
		}
		if len(longer) > 3000 {
			return nil, false
		}
		plans = longer
	}
	return plans, true
}

// fewestBySearch returns the first one of the plans that have the fewest moves.
func fewestBySearch(plans [][][]int) [][]int {
	first := plans[0]
	fewest := movesBySearch(first)
	for _, plan := range plans {
		if moves := movesBySearch(plan); moves < fewest {
			first, fewest = plan, moves
		}
	}
	return first
}

// fewestByDays returns the same plan where there are too many to try. It keeps, for each way of a day,
// the best plan that ends with it.
func fewestByDays(list []int, days, rate int) [][]int {
	ways := searchWays(list)
	plans := [][][]int{{}}
	for day := range days {
		longer := [][][]int{}
		for _, way := range ways[rate*(day+1)] {
			ending := [][][]int{}
			for _, plan := range plans {
				ending = append(ending, append(slices.Clone(plan), way))
			}
			longer = append(longer, bestOf(ending))
		}
		plans = longer
	}
	return bestOf(plans)
}

// bestOf returns the first one of the plans, in any order, that have the fewest moves.
func bestOf(plans [][][]int) [][]int {
	slices.SortFunc(plans, func(a, b [][]int) int { return slices.CompareFunc(a, b, slices.Compare) })
	return fewestBySearch(plans)
}

func textBySearch(list []int, plan [][]int) string {
	words := []string{}
	for day := range plan {
		word := ""
		for _, i := range givenBySearch(plan, day) {
			word += "+" + strconv.Itoa(list[i])
		}
		for _, i := range takenBySearch(plan, day) {
			word += "-" + strconv.Itoa(list[i])
		}
		if word == "" {
			word = "="
		}
		words = append(words, word)
	}
	return strings.Join(words, "/")
}

// paidLists returns short lists of pieces of many kinds, at most MaxPaid each, always the same ones.
func paidLists() [][]int {
	return append(slices.DeleteFunc(pieceLists(), func(list []int) bool { return len(list) > 8 }),
		[]int{1, 2, 4}, []int{1, 1, 1}, []int{1, 1, 2}, []int{1, 1, 2, 3}, []int{1, 2, 2, 4}, []int{2, 2, 4, 6}, []int{1, 1, 2, 2, 3, 3, 4, 4},
		[]int{1, 2, 3, 4, 5, 6, 7, 8}, []int{3, 3, 3, 6, 6, 9}, []int{1, 1, 2, 4, 8, 16}, []int{1, 2, 4, 8, 16, 29}, []int{10, 20, 40}, repeated(1, 8))
}

type paidPlan struct {
	list []int
	plan [][]int
}

// somePlans returns plans of all kinds, whatever they pay: some days hold nothing, some have no moves. Always the same ones.
func somePlans() []paidPlan {
	plans := []paidPlan{}
	z := 99
	for k, list := range paidLists() {
		plan := [][]int{}
		for range k * 7 % 61 {
			z = (z*1103515245 + 12345) % (1 << 31)
			choice := z >> 8
			if choice%5 == 0 && len(plan) > 0 {
				plan = append(plan, plan[len(plan)-1])
				continue
			}
			way := []int{}
			for i := range list {
				if choice>>(4+i)&1 == 1 && choice%7 > 0 {
					way = append(way, i)
				}
			}
			plan = append(plan, way)
		}
		plans = append(plans, paidPlan{list, plan})
	}
	return plans
}
