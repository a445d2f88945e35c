package tests

import (
	"slices"
)

// The searches here walk along the links of chains and try all cuts. They share nothing with the program.

// walkedParts returns the pieces of a chain along it, found link by link.
func walkedParts(links int, cuts []int) []int {
	parts := []int{}
	whole := 0
	for link := range links {
		if !slices.Contains(cuts, link) {
			whole++
			continue
		}
		if whole > 0 {
			parts = append(parts, whole)
		}
		parts = append(parts, 1)
		whole = 0
	}
	if whole > 0 {
		parts = append(parts, whole)
	}
	return parts
}

// walkedRing returns the pieces of a ring, found link by link from behind its first cut on.
func walkedRing(links int, cuts []int) []int {
	turned := []int{}
	for _, cut := range cuts {
		turned = append(turned, cut-cuts[0])
	}
	return walkedParts(links, turned)
}

// sumsBySearch tells of each number up to all links whether it is a sum of parts.
func sumsBySearch(links int, parts []int) []bool {
	sums := make([]bool, links+1)
	sums[0] = true
	for _, part := range parts {
		for sum := links; sum >= part; sum-- {
			sums[sum] = sums[sum] || sums[sum-part]
		}
	}
	return sums
}

func paysBySearch(links int, parts []int) bool {
	return !slices.Contains(sumsBySearch(links, parts), false)
}

func runBySearch(links int, parts []int) int {
	if gap := slices.Index(sumsBySearch(links, parts), false); gap >= 0 {
		return gap - 1
	}
	return links
}

// eachCuts visits all lists of so many cuts of a chain in lexicographic order.
func eachCuts(links, count int, visit func(cuts []int)) {
	var choose func(cuts []int, from int)
	choose = func(cuts []int, from int) {
		if len(cuts) == count {
			visit(slices.Clone(cuts))
			return
		}
		for cut := from; cut < links; cut++ {
			choose(append(slices.Clone(cuts), cut), cut+1)
		}
	}
	choose(nil, 0)
}

// payingBySearch returns all lists of cuts that pay, in lexicographic order, as few cuts as there can be.
func payingBySearch(links, least int, parts func(int, []int) []int) [][]int {
	paying := [][]int{}
	for count := least; len(paying) == 0; count++ {
		eachCuts(links, count, func(cuts []int) {
			if paysBySearch(links, parts(links, cuts)) {
				paying = append(paying, cuts)
			}
		})
	}
	return paying
}

func needlessBySearch(links int, cuts []int) []int {
	needless := []int{}
	for i := range cuts {
		if paysBySearch(links, walkedParts(links, slices.Delete(slices.Clone(cuts), i, i+1))) {
			needless = append(needless, i)
		}
	}
	return needless
}

// joinsBySearch opens all choices of links of all chains; those that are opened have to join what is left whole.
func joinsBySearch(chains []int) int {
	fewest := totalOf(chains)
	for choice := range 1 << totalOf(chains) {
		opened, whole, link := 0, 0, 0
		for _, links := range chains {
			inside := false
			for range links {
				isOpen := choice>>link&1 == 1
				link++
				if isOpen {
					opened++
				} else if !inside {
					whole++
				}
				inside = !isOpen
			}
		}
		if opened >= whole-1 {
			fewest = min(fewest, opened)
		}
	}
	return fewest
}

type chainCut struct {
	links int
	cuts  []int
}

// cutChains returns all cuts of short chains, and some cuts of longer ones, always the same ones.
func cutChains() []chainCut {
	chains := []chainCut{}
	for links := 1; links <= 11; links++ {
		for count := 0; count <= min(links, 9); count++ {
			eachCuts(links, count, func(cuts []int) { chains = append(chains, chainCut{links, cuts}) })
		}
	}
	z := 4711
	for k := range 300 {
		links := 12 + k*37%989
		cuts := []int{}
		for range k % 10 {
			z = (z*1103515245 + 12345) % (1 << 31)
			cuts = append(cuts, z>>8%max(k, 12)%links)
		}
		slices.Sort(cuts)
		chains = append(chains, chainCut{links, slices.Compact(cuts)})
	}
	return chains
}
