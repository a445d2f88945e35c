package tests

import (
	"slices"
	"strconv"
	"strings"
	"testing"

	"loop.example/g01305/impl"
)

// The searches here go through all lists of hidden pieces, with the functions of chapter 1 or with all choices of pieces.
// They share nothing with chapter 9.

// allHidden are all lists of hidden pieces, in lexicographic order.
var allHidden = hiddenBySearch()

// hiddenBySearch puts the digits of all numbers of four digits in order: a digit 0 stands for no piece.
func hiddenBySearch() [][]int {
	lists := [][]int{}
	for code := range 7 * 7 * 7 * 7 {
		list := []int{}
		for n := code; n > 0; n /= 7 {
			if n%7 > 0 {
				list = append(list, n%7)
			}
		}
		slices.Sort(list)
		lists = append(lists, list)
	}
	slices.SortFunc(lists, slices.Compare)
	return slices.CompactFunc(lists, slices.Equal)
}

// boundsOfKinds has for each kind of clue the least and the greatest A, and the greatest B.
var boundsOfKinds = [][3]int{{0, 4, 0}, {0, 24, 0}, {0, 24, 1}, {0, 24, 0}, {0, 24, 16}, {1, 6, 4}}

// allClues returns all clues of some kinds, each kind in order.
func allClues(kinds ...int) []impl.Clue {
	clues := []impl.Clue{}
	for _, kind := range kinds {
		bounds := boundsOfKinds[kind]
		for a := bounds[0]; a <= bounds[1]; a++ {
			for b := 0; b <= bounds[2]; b++ {
				clues = append(clues, impl.Clue{Kind: kind, A: a, B: b})
			}
		}
	}
	return clues
}

func timesIn(list []int, n int) int {
	times := 0
	for _, m := range list {
		if m == n {
			times++
		}
	}
	return times
}

// fitsBySearch asks the functions of chapter 1.
func fitsBySearch(c impl.Clue, list []int) bool {
	switch c.Kind {
	case 0:
		return len(list) == c.A
	case 1:
		sum, _ := impl.SumOfPieces(list)
		return sum == c.A
	case 2:
		can, _ := impl.CanMake(list, c.A)
		return can == (c.B == 1)
	case 3:
		run, _ := impl.RunOf(list)
		return run == c.A
	case 4:
		ways, _ := impl.WaysOf(list, c.A)
		return ways == c.B
	}
	return timesIn(list, c.A) == c.B
}

// fitsByChoices asks all ways to make each sum.
func fitsByChoices(c impl.Clue, list []int, ways map[int][][]int, run int) bool {
	switch c.Kind {
	case 0:
		return len(list) == c.A
	case 1:
		return totalOf(list) == c.A
	case 2:
		return (len(ways[c.A]) > 0) == (c.B > 0)
	case 3:
		return run == c.A
	case 4:
		return len(ways[c.A]) == c.B
	}
	return timesIn(list, c.A) == c.B
}

// fittingLists has for each clue that was asked for which of allHidden fit it.
var fittingLists = map[impl.Clue][]bool{}

func fitting(c impl.Clue) []bool {
	if fittingLists[c] == nil {
		for _, list := range allHidden {
			fittingLists[c] = append(fittingLists[c], fitsBySearch(c, list))
		}
	}
	return fittingLists[c]
}

func solutionsBySearch(clues ...impl.Clue) [][]int {
	solutions := [][]int{}
	for i, list := range allHidden {
		if !slices.ContainsFunc(clues, func(c impl.Clue) bool { return !fitting(c)[i] }) {
			solutions = append(solutions, list)
		}
	}
	return solutions
}

// sureBySearch crosses out in the first solution what another one has not.
func sureBySearch(solutions [][]int) []int {
	sure := solutions[0]
	for _, list := range solutions {
		rest, both := slices.Clone(list), []int{}
		for _, piece := range sure {
			if i := slices.Index(rest, piece); i >= 0 {
				both = append(both, piece)
				rest = slices.Delete(rest, i, i+1)
			}
		}
		sure = both
	}
	return sure
}

func clueLess(clues []impl.Clue, k int) []impl.Clue {
	return slices.Delete(slices.Clone(clues), k, k+1)
}

func needlessCluesBySearch(clues []impl.Clue) []int {
	needless := []int{}
	for k := range clues {
		if len(solutionsBySearch(clueLess(clues, k)...)) == len(solutionsBySearch(clues...)) {
			needless = append(needless, k)
		}
	}
	return needless
}

// harderBySearch takes the clues by marks, where the program takes them out.
func harderBySearch(clues []impl.Clue) []impl.Clue {
	out := make([]bool, len(clues))
	left := func() []impl.Clue {
		in := []impl.Clue{}
		for k, c := range clues {
			if !out[k] {
				in = append(in, c)
			}
		}
		return in
	}
	for k := range clues {
		out[k] = true
		out[k] = len(solutionsBySearch(left()...)) == 1
	}
	return left()
}

// madeBySearch makes all numbers first, and the clues of them.
func madeBySearch(list []int, count, seed int) []impl.Clue {
	z := []int{seed}
	for range 2 * count {
		z = append(z, (z[len(z)-1]*179+2081)%10007)
	}
	clues := []impl.Clue{}
	for k := range count {
		kind, y := z[2*k+1]%6, z[2*k+2]
		fit := allClues(kind)
		switch kind {
		case 2, 4:
			fit = slices.DeleteFunc(fit, func(c impl.Clue) bool { return c.A != y%25 })
		case 5:
			fit = slices.DeleteFunc(fit, func(c impl.Clue) bool { return c.A != y%6+1 })
		}
		// Of the clues that are left the pieces fit just one.
		fit = slices.DeleteFunc(fit, func(c impl.Clue) bool { return !fitsBySearch(c, list) })
		clues = append(clues, fit...)
	}
	return clues
}

func clueTextBySearch(clues ...impl.Clue) string {
	text := ""
	for k, c := range clues[:min(len(clues), 10)] {
		if k > 0 {
			text += ","
		}
		text += strconv.Itoa(c.Kind) + "." + strconv.Itoa(c.A) + "." + strconv.Itoa(c.B)
	}
	return text
}

// puzzleWith returns the puzzle with a text. It panics if the text has no clues.
func puzzleWith(text string) impl.Puzzle {
	p := impl.Puzzle{}
	for _, word := range strings.FieldsFunc(text, func(r rune) bool { return r == ',' }) {
		numbers := []int{}
		for _, digits := range strings.Split(word, ".") {
			n, err := strconv.Atoi(digits)
			if err != nil {
				panic(err)
			}
			numbers = append(numbers, n)
		}
		p.Clues = append(p.Clues, impl.Clue{Kind: numbers[0], A: numbers[1], B: numbers[2]})
	}
	return p
}

// puzzleLists returns puzzles of none to six clues, always the same ones: two of three have clues that some hidden pieces fit.
func puzzleLists() []impl.Puzzle {
	puzzles := []impl.Puzzle{{}}
	for _, c := range allClues(0, 1, 2, 3, 4, 5) {
		puzzles = append(puzzles, impl.Puzzle{Clues: []impl.Clue{c}})
	}
	z := 31415
	next := func(n int) int {
		z = (z*1103515245 + 12345) % (1 << 31)
		return z >> 8 % n
	}
	for k := range 240 {
		list := allHidden[next(len(allHidden))]
		p := impl.Puzzle{}
		for len(p.Clues) < 1+k%6 {
			of := allClues(next(6))
			if c := of[next(len(of))]; k%3 == 0 || fitsBySearch(c, list) {
				p.Clues = append(p.Clues, c)
			}
		}
		if k%5 == 0 {
			p.Clues[0] = p.Clues[len(p.Clues)-1]
		}
		puzzles = append(puzzles, p)
	}
	return puzzles
}

func wantPuzzle(t *testing.T, name string, got impl.Puzzle, ok bool, want ...impl.Clue) {
	t.Helper()
	if !ok || !slices.Equal(got.Clues, want) {
		t.Errorf("%s: got %v, %v; want %v, true", name, got, ok, want)
	}
}

func wantNoPuzzle(t *testing.T, name string, got impl.Puzzle, ok bool) {
	t.Helper()
	if ok || len(got.Clues) != 0 {
		t.Errorf("%s: got %v, %v; want none, false", name, got, ok)
	}
}
