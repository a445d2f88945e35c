package tests

import (
	"math"
	"slices"
	"testing"

	"loop.example/g01305/impl"
)

// puzzleCall calls a function with some of these: a puzzle, a clue, a list and two numbers. It returns the lists and the clues of the result.
type puzzleCall func(p impl.Puzzle, c impl.Clue, list []int, n, m int) ([][]int, []impl.Clue)

// tellsNoClues makes a call of one whose result has no clues.
func tellsNoClues(call func(p impl.Puzzle, c impl.Clue, list []int, n, m int) [][]int) puzzleCall {
	return func(p impl.Puzzle, c impl.Clue, list []int, n, m int) ([][]int, []impl.Clue) {
		return call(p, c, list, n, m), nil
	}
}

// tellsPuzzle makes a call of one whose result is a puzzle.
func tellsPuzzle(call func(p impl.Puzzle, c impl.Clue, list []int, n, m int) (impl.Puzzle, bool)) puzzleCall {
	return func(p impl.Puzzle, c impl.Clue, list []int, n, m int) ([][]int, []impl.Clue) {
		told, _ := call(p, c, list, n, m)
		return nil, told.Clues
	}
}

// puzzleFunctions returns all functions of chapter 9 that take a puzzle, made alike.
func puzzleFunctions() map[string]puzzleCall {
	type puzzle = impl.Puzzle
	type clue = impl.Clue
	calls := map[string]puzzleCall{
		"IsPuzzle":       tellsNoClues(func(p puzzle, c clue, l []int, n, m int) [][]int { impl.IsPuzzle(p); return nil }),
		"Solutions":      tellsNoClues(func(p puzzle, c clue, l []int, n, m int) [][]int { r, _ := impl.Solutions(p); return r }),
		"CountSolutions": tellsNoClues(func(p puzzle, c clue, l []int, n, m int) [][]int { impl.CountSolutions(p); return nil }),
		"IsSolved":       tellsNoClues(func(p puzzle, c clue, l []int, n, m int) [][]int { impl.IsSolved(p); return nil }),
		"BestClue":       tellsNoClues(func(p puzzle, c clue, l []int, n, m int) [][]int { impl.BestClue(p); return nil }),
		"PuzzleText":     tellsNoClues(func(p puzzle, c clue, l []int, n, m int) [][]int { impl.PuzzleText(p); return nil }),
		"DropClue":       tellsPuzzle(func(p puzzle, c clue, l []int, n, m int) (puzzle, bool) { return impl.DropClue(p, n) }),
		"AddClue":        tellsPuzzle(func(p puzzle, c clue, l []int, n, m int) (puzzle, bool) { return impl.AddClue(p, c) }),
		"HarderPuzzle":   tellsPuzzle(func(p puzzle, c clue, l []int, n, m int) (puzzle, bool) { return impl.HarderPuzzle(p) }),
		"ParsePuzzle": tellsPuzzle(func(p puzzle, c clue, l []int, n, m int) (puzzle, bool) {
			s, _ := impl.PuzzleText(p)
			return impl.ParsePuzzle(s)
		}),
	}
	for name, f := range map[string]func(puzzle) ([]int, bool){"FirstSolution": impl.FirstSolution, "SurePieces": impl.SurePieces, "NeedlessClues": impl.NeedlessClues, "LeftByClues": impl.LeftByClues} {
		calls[name] = tellsNoClues(func(p puzzle, c clue, l []int, n, m int) [][]int { r, _ := f(p); return [][]int{r} })
	}
	return calls
}

// hiddenFunctions returns all functions of chapter 9 that take a clue or hidden pieces, and no puzzle, made like the others.
func hiddenFunctions() map[string]puzzleCall {
	return map[string]puzzleCall{
		"IsHidden": tellsNoClues(func(p impl.Puzzle, c impl.Clue, l []int, n, m int) [][]int { impl.IsHidden(l); return nil }),
		"IsClue":   tellsNoClues(func(p impl.Puzzle, c impl.Clue, l []int, n, m int) [][]int { impl.IsClue(c); return nil }),
		"DoesFit":  tellsNoClues(func(p impl.Puzzle, c impl.Clue, l []int, n, m int) [][]int { impl.DoesFit(c, l); return nil }),
		"MakePuzzle": tellsPuzzle(func(p impl.Puzzle, c impl.Clue, l []int, n, m int) (impl.Puzzle, bool) {
			return impl.MakePuzzle(l, n, m)
		}),
	}
}

// anyClues returns clues and clues that are none.
func anyClues() []impl.Clue {
	clues := []impl.Clue{{}, {Kind: 0, A: 4}, {Kind: 1, A: 7}, {Kind: 1, A: 24}, {Kind: 2, A: 3, B: 1}, {Kind: 2, A: 24}, {Kind: 3, A: 3}, {Kind: 4, A: 0, B: 1}, {Kind: 4, A: 24, B: 16}, {Kind: 5, A: 1, B: 0}, {Kind: 5, A: 6, B: 4}}
	for _, n := range []int{math.MinInt, -1, 6, 7, 25, 1 << 32, math.MaxInt} {
		clues = append(clues, impl.Clue{Kind: n}, impl.Clue{Kind: 1, A: n}, impl.Clue{Kind: 4, B: n}, impl.Clue{Kind: 5, A: n, B: 1}, impl.Clue{Kind: n, A: n, B: n}, impl.Clue{Kind: 2, A: n, B: n})
	}
	return clues
}

// anyPuzzles returns puzzles and lists of clues that are none.
func anyPuzzles() [][]impl.Clue {
	lists := [][]impl.Clue{nil, {}, make([]impl.Clue, 6), make([]impl.Clue, 7), make([]impl.Clue, 5000)}
	for _, c := range anyClues() {
		lists = append(lists, []impl.Clue{c}, []impl.Clue{{Kind: 0, A: 2}, c}, slices.Repeat([]impl.Clue{c}, 6), slices.Repeat([]impl.Clue{c}, 7))
	}
	for _, n := range namedPuzzles() {
		lists = append(lists, puzzleWith(n.text).Clues)
	}
	return lists
}

func TestNoCallOfPuzzlesPanicsOrModifies(t *testing.T) {
	for name, call := range puzzleFunctions() {
		for _, clues := range anyPuzzles() {
			switch name {
			case "DropClue":
				for _, k := range []int{math.MinInt, -1, 0, 1, len(clues) - 1, len(clues), 6, math.MaxInt} {
					checkPuzzleCall(t, name, call, clues, impl.Clue{}, nil, k, 0)
				}
			case "AddClue":
				for _, c := range anyClues() {
					checkPuzzleCall(t, name, call, clues, c, nil, 0, 0)
				}
			default:
				checkPuzzleCall(t, name, call, clues, impl.Clue{}, nil, 0, 0)
			}
		}
	}
}

func TestNoCallOfHiddenPiecesPanicsOrModifies(t *testing.T) {
	lists := append(anyLists(), []int{3, 4}, []int{6, 6, 6, 6}, []int{1, 1, 1, 1}, []int{7}, repeated(6, 5), []int{6, 6, 6, 5})
	for name, call := range hiddenFunctions() {
		for _, list := range lists {
			if name != "MakePuzzle" {
				for _, c := range anyClues() {
					checkPuzzleCall(t, name, call, nil, c, list, 0, 0)
				}
				continue
			}
			for _, clues := range []int{math.MinInt, -1, 0, 1, 3, 6, 7, 1 << 32, math.MaxInt} {
				for _, seed := range []int{math.MinInt, -1, 0, 1, 9999, 10000, 1 << 32, math.MaxInt} {
					checkPuzzleCall(t, name, call, nil, impl.Clue{}, list, clues, seed)
				}
			}
		}
	}
}

// cluesWithSpare returns memory that goes on behind the clues, filled, and the clues in front of it.
func cluesWithSpare(clues []impl.Clue) (whole, front []impl.Clue) {
	whole = append(slices.Clone(clues), slices.Repeat([]impl.Clue{{Kind: spare, A: spare, B: spare}}, 9)...)
	return whole, whole[:len(clues)]
}

func fillClues(clues []impl.Clue) {
	clues = clues[:cap(clues)]
	for k := range clues {
		clues[k] = impl.Clue{Kind: spare - 1, A: spare - 1, B: spare - 1}
	}
}

func checkPuzzleCall(t *testing.T, name string, call puzzleCall, clues []impl.Clue, c impl.Clue, list []int, n, m int) {
	t.Helper()
	name = payName(name+" "+clueTextBySearch(clues...)+" and "+clueTextBySearch(c), list, n, m)
	defer func() {
		if r := recover(); r != nil {
			t.Errorf("%s panics: %v", name, r)
		}
	}()
	wholeClues, frontClues := cluesWithSpare(clues)
	wholeList, frontList := withSpare(list)
	cluesBefore, listBefore := slices.Clone(wholeClues), slices.Clone(wholeList)
	isStill := func() bool { return slices.Equal(wholeClues, cluesBefore) && slices.Equal(wholeList, listBefore) }
	lists, told := call(impl.Puzzle{Clues: frontClues}, c, frontList, n, m)
	if !isStill() {
		t.Errorf("%s modifies its argument", name)
	}
	listsTold, cluesTold := [][]int{}, slices.Clone(told)
	for _, l := range lists {
		listsTold = append(listsTold, slices.Clone(l))
	}
	fillApart(t, name, lists)
	fillClues(told)
	if !isStill() {
		t.Errorf("%s returns memory of its argument", name)
	}
	lists, told = call(impl.Puzzle{Clues: frontClues}, c, frontList, n, m)
	fillAll(wholeList)
	fillClues(wholeClues)
	if !slices.EqualFunc(lists, listsTold, slices.Equal) || !slices.Equal(told, cluesTold) {
		t.Errorf("%s returns memory of its argument or of an earlier result", name)
	}
}

func TestParsePuzzleTakesAllTexts(t *testing.T) {
	checkAllTexts(t, "ParsePuzzle", "01246.,-", 6, impl.ParsePuzzle, impl.PuzzleText)
	checkAllTexts(t, "ParsePuzzle", "05+. ,\n\x00\xff", 5, impl.ParsePuzzle, impl.PuzzleText)
}

// The texts go on behind a clue.
func TestParsePuzzleTakesAllTextsBehindAClue(t *testing.T) {
	const front = "1.24.0"
	parse := func(s string) (impl.Puzzle, bool) { return impl.ParsePuzzle(front + s) }
	write := func(p impl.Puzzle) (string, bool) {
		text, ok := impl.PuzzleText(p)
		return text[min(len(front), len(text)):], ok
	}
	checkAllTexts(t, "ParsePuzzle behind a clue", "0124.,", 7, parse, write)
}
