package tests

import (
	"math/big"
	"slices"
)

// The searches here try all change, lay one coin after the other, or take sums of sets. They share nothing with the program.

// allChange returns all change for each amount up to top, in lexicographic order. With a purse at most as many coins of each kind are taken.
func allChange(coins, purse []int, top int) map[int][][]int {
	all := map[int][][]int{}
	var choose func(counts []int, amount int)
	choose = func(counts []int, amount int) {
		kind := len(counts)
		if kind == len(coins) {
			all[amount] = append(all[amount], counts)
			return
		}
		for n := 0; amount+n*coins[kind] <= top; n++ {
			if purse != nil && n > purse[kind] {
				break
			}
			choose(append(slices.Clone(counts), n), amount+n*coins[kind])
		}
	}
	choose(nil, 0)
	return all
}

// fewestChange returns the first change with the fewest coins.
func fewestChange(all [][]int) []int {
	best := all[0]
	for _, change := range all {
		if totalOf(change) < totalOf(best) {
			best = change
		}
	}
	return best
}

// greedyBySearch lays the greatest coins one after the other, and returns them and what is left.
func greedyBySearch(coins []int, amount int) (change []int, left int) {
	change = make([]int, len(coins))
	for amount >= coins[0] {
		kind := len(coins) - 1
		for coins[kind] > amount {
			kind--
		}
		change[kind]++
		amount -= coins[kind]
	}
	return change, amount
}

// failuresBySearch returns all amounts up to top for which greedy change fails though there is change.
func failuresBySearch(coins []int, top int) []int {
	failures := []int{}
	for amount, fewest := range fewestByLetters(coins, top) {
		change, left := greedyBySearch(coins, amount)
		if fewest >= 0 && (left > 0 || totalOf(change) > fewest) {
			failures = append(failures, amount)
		}
	}
	return failures
}

// upTo returns the numbers of an increasing list that are at most a limit.
func upTo(list []int, limit int) []int {
	few := []int{}
	for _, n := range list {
		if n <= limit {
			few = append(few, n)
		}
	}
	return few
}

// unpaidBySearch returns all amounts without change, increasing, up to the product of the least and the greatest coin.
// For coins without a common divisor there are none behind.
func unpaidBySearch(coins []int) []int {
	unpaid := []int{}
	for amount, fewest := range fewestByLetters(coins, coins[0]*coins[len(coins)-1]) {
		if fewest < 0 {
			unpaid = append(unpaid, amount)
		}
	}
	return unpaid
}

// haveDivisor reports whether a number of at least 2 divides all the numbers.
func haveDivisor(numbers ...int) bool {
	for divisor := 2; divisor <= slices.Max(numbers); divisor++ {
		if !slices.ContainsFunc(numbers, func(n int) bool { return n%divisor != 0 }) {
			return true
		}
	}
	return false
}

// firstFromPurse returns the first change by coins of a purse, nil if there is none, by the sets of amounts that the later kinds pay.
func firstFromPurse(coins, purse []int, amount int) []int {
	sets := make([][]bool, len(coins)+1)
	sets[len(coins)] = make([]bool, amount+1)
	sets[len(coins)][0] = true
	for kind := len(coins) - 1; kind >= 0; kind-- {
		sets[kind] = make([]bool, amount+1)
		for sum, is := range sets[kind+1] {
			for n := 0; is && n <= purse[kind] && sum+n*coins[kind] <= amount; n++ {
				sets[kind][sum+n*coins[kind]] = true
			}
		}
	}
	if !sets[0][amount] {
		return nil
	}
	change := []int{}
	for kind, coin := range coins {
		n := 0
		for !sets[kind+1][amount-n*coin] {
			n++
		}
		change = append(change, n)
		amount -= n * coin
	}
	return change
}

// waysBySums returns in how many ways there is change, however many that are.
func waysBySums(coins []int, amount int) *big.Int {
	ways := make([]*big.Int, amount+1)
	for sum := range ways {
		ways[sum] = big.NewInt(0)
	}
	ways[0].SetInt64(1)
	for _, coin := range coins {
		for sum := coin; sum <= amount; sum++ {
			ways[sum].Add(ways[sum], ways[sum-coin])
		}
	}
	return ways[amount]
}

// coinLists returns small coins of one to eight kinds, always the same ones.
func coinLists() [][]int {
	lists := [][]int{{1}, {2}, {7}, {1, 2}, {2, 3}, {2, 4}, {1, 3, 4}, {1, 2, 5}, {3, 5}, {2, 4, 7}, {3, 6, 9}, {6, 10, 15}, {4, 6, 9}, {1, 2, 4, 8, 16}, {1, 2, 3, 4, 5, 6, 7, 8}, {2, 4, 6, 8, 10, 12, 14, 16}, {1, 5, 8, 10}}
	z := 24680
	for k := range 120 {
		list := []int{}
		if k%3 == 0 {
			list = append(list, 1)
		}
		for len(list) < 1+k%8 {
			z = (z*1103515245 + 12345) % (1 << 31)
			list = append(list, 1+z>>8%(9+k%11))
			slices.Sort(list)
			list = slices.Compact(list)
		}
		lists = append(lists, list)
	}
	return lists
}

// greatCoinLists returns coins of two to eight kinds up to the greatest ones, always the same.
func greatCoinLists() [][]int {
	lists := [][]int{{1, 999, 1000}, {999, 1000}, {1, 500, 1000}, {500, 1000}, {2, 1000}, {2, 999}, {1, 10, 100, 1000}, {1, 2, 5, 10, 20, 50, 100, 200}, {993, 994, 995, 996, 997, 998, 999, 1000}}
	z := 97531
	for k := range 60 {
		list := []int{}
		if k%2 == 0 {
			list = append(list, 1)
		}
		for len(list) < 2+k%7 {
			z = (z*1103515245 + 12345) % (1 << 31)
			list = append(list, 1+z>>8%1000)
			slices.Sort(list)
			list = slices.Compact(list)
		}
		lists = append(lists, list)
	}
	return lists
}
