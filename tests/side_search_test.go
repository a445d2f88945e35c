package tests

import (
	"slices"
	"strings"
)

// The searches here try all signs, told by texts, and add up digits place by place. They share nothing with the program.

// allSigns returns all texts of so many of the signs, ordered as texts are.
func allSigns(count int) []string {
	texts := []string{""}
	for range count {
		longer := []string{}
		for _, text := range texts {
			longer = append(longer, text+"0", text+"+", text+"-")
		}
		texts = longer
	}
	slices.Sort(texts)
	return texts
}

func valueBySearch(list []int, signs string) int {
	value := 0
	for i, n := range list {
		if signs[i] == '+' {
			value += n
		}
		if signs[i] == '-' {
			value -= n
		}
	}
	return value
}

// signsByValue returns for each value all signs that have it, in their order.
func signsByValue(list []int) map[int][]string {
	byValue := map[int][]string{}
	for _, signs := range allSigns(len(list)) {
		value := valueBySearch(list, signs)
		byValue[value] = append(byValue[value], signs)
	}
	return byValue
}

// fewestNotLeft returns how many pieces are not left in those of some signs that leave the most.
func fewestNotLeft(all []string) int {
	fewest := len(all[0])
	for _, signs := range all {
		fewest = min(fewest, len(signs)-strings.Count(signs, "0"))
	}
	return fewest
}

// valuesBySets returns all values of pieces that are too many for a search over all signs.
func valuesBySets(list []int) map[int]bool {
	values := map[int]bool{0: true}
	for _, n := range list {
		more := map[int]bool{}
		for value := range values {
			more[value], more[value+n], more[value-n] = true, true, true
		}
		values = more
	}
	return values
}

func runOfValues(values map[int]bool) int {
	run := 0
	for values[run+1] {
		run++
	}
	return run
}

// paymentBySearch tries all that both can give, and returns the least sum with what comes back.
func paymentBySearch(mine, theirs []int, n int) (given, back int, ok bool) {
	eachWay(len(mine), func(way []int) {
		eachWay(len(theirs), func(other []int) {
			sum, change := sumAt(mine, way), sumAt(theirs, other)
			if sum-change == n && (!ok || sum < given) {
				given, back, ok = sum, change, true
			}
		})
	})
	return given, back, ok
}

// numberBySearch adds up what each digit of a text stands for.
func numberBySearch(digits string) int {
	places := []int{}
	for range len(digits) {
		for i := range places {
			places[i] *= 3
		}
		places = append(places, 1)
	}
	return valueBySearch(places, digits)
}

// turned returns the signs with + and - exchanged.
func turned(signs string) string {
	return strings.ReplaceAll(strings.ReplaceAll(strings.ReplaceAll(signs, "+", "x"), "-", "+"), "x", "-")
}

// tripled returns 1, 3, 9 and so on, so many numbers.
func tripled(count int) []int {
	list := []int{}
	for piece := 1; len(list) < count; piece *= 3 {
		list = append(list, piece)
	}
	return list
}

// sideLists returns pieces that are few enough for a search over all signs, always the same ones.
func sideLists() [][]int {
	return append(pieceLists(), []int{1, 1}, []int{3, 3, 3}, []int{5, 5, 5, 5, 5, 5}, []int{2, 3}, []int{2, 2, 3, 3}, []int{2, 5, 9}, []int{1, 3, 9}, []int{1, 2, 4}, []int{1, 4, 4}, []int{1, 2, 9, 9},
		tripled(6), doubled(7), repeated(1, 8), []int{1, 250}, []int{250, 251, 252})
}
