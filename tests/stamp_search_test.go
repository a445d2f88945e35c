package tests

import (
	"maps"
	"slices"
)

// The searches here try all ways to take stamps, or all sets of them. They share nothing with the program.

// eachCount visits all lists of how many of so many kinds are taken, at most room together, in lexicographic order.
func eachCount(kinds, room int, visit func(counts []int)) {
	var choose func(counts []int, left int)
	choose = func(counts []int, left int) {
		if len(counts) == kinds {
			visit(slices.Clone(counts))
			return
		}
		for n := 0; n <= left; n++ {
			choose(append(slices.Clone(counts), n), left-n)
		}
	}
	choose(nil, room)
}

func valueOfCounts(stamps, counts []int) int {
	value := 0
	for i, n := range counts {
		value += n * stamps[i]
	}
	return value
}

// waysByValue returns all ways to reach each value, in lexicographic order.
func waysByValue(stamps []int, room int) map[int][][]int {
	ways := map[int][][]int{}
	eachCount(len(stamps), room, func(counts []int) {
		value := valueOfCounts(stamps, counts)
		ways[value] = append(ways[value], counts)
	})
	return ways
}

// valuesOfJust returns the values of just so many stamps, increasing.
func valuesOfJust(stamps []int, count int) []int {
	values := map[int]bool{}
	eachCount(len(stamps), count, func(counts []int) {
		if totalOf(counts) == count {
			values[valueOfCounts(stamps, counts)] = true
		}
	})
	return slices.Sorted(maps.Keys(values))
}

// reachBySearch puts one stamp after the other on letters with each value that is reached so far.
func reachBySearch(stamps []int, room int) int {
	reached := make([]bool, room*slices.Max(stamps)+2)
	reached[0] = true
	for range room {
		before := slices.Clone(reached)
		for value, is := range before {
			for _, stamp := range stamps {
				if is {
					reached[value+stamp] = true
				}
			}
		}
	}
	return slices.Index(reached, false) - 1
}

// fewestByLetters returns the least number of stamps for each value up to top, -1 where there is none.
func fewestByLetters(stamps []int, top int) []int {
	fewest := slices.Repeat([]int{-1}, top+1)
	fewest[0] = 0
	letters := []int{0}
	for count := 1; len(letters) > 0; count++ {
		next := []int{}
		for _, value := range letters {
			for _, stamp := range stamps {
				if more := value + stamp; more <= top && fewest[more] < 0 {
					fewest[more] = count
					next = append(next, more)
				}
			}
		}
		letters = next
	}
	return fewest
}

// nextBySearch returns the next stamp, 0 if there is none.
func nextBySearch(stamps []int, room int) int {
	next, best := 0, -1
	for value := slices.Max(stamps) + 1; value <= reachBySearch(stamps, room)+1 && value <= 500; value++ {
		if reach := reachBySearch(append(slices.Clone(stamps), value), room); reach > best {
			next, best = value, reach
		}
	}
	return next
}

// eachSet visits all sets of so many kinds, each in from..to, in lexicographic order.
func eachSet(kinds, from, to int, visit func(set []int)) {
	var choose func(set []int, from int)
	choose = func(set []int, from int) {
		if len(set) == kinds {
			visit(slices.Clone(set))
			return
		}
		for value := from; value <= to; value++ {
			choose(append(slices.Clone(set), value), value+1)
		}
	}
	choose(nil, from)
}

// stampLists returns small stamps of one to six kinds, always the same ones.
func stampLists() [][]int {
	lists := [][]int{{1}, {2}, {1, 2}, {1, 3}, {2, 3}, {1, 5, 8}, {1, 2, 3, 4, 5, 6}, {1, 4, 7, 8}, {3, 6, 9}}
	z := 54321
	for k := range 90 {
		list := []int{}
		if k%3 > 0 {
			list = append(list, 1)
		}
		for len(list) < 1+k%6 {
			z = (z*1103515245 + 12345) % (1 << 31)
			list = append(list, 1+z>>8%(6+k%19))
			slices.Sort(list)
			list = slices.Compact(list)
		}
		lists = append(lists, list)
	}
	return lists
}
