package tests

import (
	"slices"
	"testing"

	"loop.example/g01305/impl"
)

func TestPuzzleExamples(t *testing.T) {
	p, ok := impl.ParsePuzzle("0.2.0,1.7.0,2.3.1")
	wantPuzzle(t, "ParsePuzzle", p, ok, impl.Clue{Kind: 0, A: 2, B: 0}, impl.Clue{Kind: 1, A: 7, B: 0}, impl.Clue{Kind: 2, A: 3, B: 1})
	solutions, ok := impl.Solutions(p)
	wantPlan(t, "Solutions", solutions, ok, [][]int{{3, 4}})
	less, ok := impl.DropClue(p, 2)
	wantPuzzle(t, "DropClue 2", less, ok, impl.Clue{Kind: 0, A: 2, B: 0}, impl.Clue{Kind: 1, A: 7, B: 0})
	solutions, ok = impl.Solutions(less)
	wantPlan(t, "Solutions without the last clue", solutions, ok, [][]int{{1, 6}, {2, 5}, {3, 4}})
	for _, pair := range [][]int{{1, 6}, {2, 5}} {
		is, ok := impl.DoesFit(impl.Clue{Kind: 2, A: 3, B: 1}, pair)
		wantBool(t, payName("DoesFit", pair), is, ok, false)
	}
	left, ok := impl.LeftByClues(p)
	wantList(t, "LeftByClues", left, ok, []int{210, 21, 3, 1})
	q, ok := impl.ParsePuzzle("3.3.0,0.2.0")
	wantPuzzle(t, "ParsePuzzle", q, ok, impl.Clue{Kind: 3, A: 3, B: 0}, impl.Clue{Kind: 0, A: 2, B: 0})
	sure, ok := impl.SurePieces(q)
	wantList(t, "SurePieces", sure, ok, []int{1, 2})
	solutions, ok = impl.Solutions(q)
	wantPlan(t, "Solutions of the other puzzle", solutions, ok, [][]int{{1, 2}})
	n, ok := impl.CountSolutions(impl.Puzzle{})
	wantNumber(t, "CountSolutions of no clue", n, ok, 210)
}

func TestHiddenPiecesAreThoseOfTheSearch(t *testing.T) {
	if len(allHidden) != 210 {
		t.Fatal("the search has", len(allHidden))
	}
	hidden := map[string]bool{}
	for _, list := range allHidden {
		hidden[payName("", list)] = true
	}
	var try func(list []int)
	try = func(list []int) {
		if impl.IsHidden(list) != hidden[payName("", list)] {
			t.Error(payName("IsHidden", list))
		}
		if len(list) == 5 {
			return
		}
		for n := range 8 {
			try(append(slices.Clone(list), n))
		}
	}
	try(nil)
}

func TestCluesAreThoseOfTheirKinds(t *testing.T) {
	valid := map[impl.Clue]bool{}
	for _, c := range allClues(0, 1, 2, 3, 4, 5) {
		valid[c] = true
	}
	for kind := -2; kind <= 8; kind++ {
		for a := -2; a <= 26; a++ {
			for b := -2; b <= 26; b++ {
				c := impl.Clue{Kind: kind, A: a, B: b}
				if impl.IsClue(c) != valid[c] || impl.IsPuzzle(impl.Puzzle{Clues: []impl.Clue{c}}) != valid[c] {
					t.Error("IsClue or IsPuzzle of", c)
				}
			}
		}
	}
}

func TestCluesFitAsInTheSearch(t *testing.T) {
	clues := allClues(0, 1, 2, 3, 4, 5)
	for i, list := range allHidden {
		ways, run := searchWays(list), searchRun(list)
		for _, c := range clues {
			want := fitsByChoices(c, list, ways, run)
			if want != fitting(c)[i] {
				t.Fatal("the searches do not agree:", c, list)
			}
			is, ok := impl.DoesFit(c, list)
			wantBool(t, payName("DoesFit "+clueTextBySearch(c), list), is, ok, want)
		}
	}
}

func TestPuzzlesAreSolvedAsInTheSearch(t *testing.T) {
	for _, p := range puzzleLists() {
		name := clueTextBySearch(p.Clues...)
		if !impl.IsPuzzle(p) {
			t.Error("IsPuzzle does not take", name)
		}
		all := solutionsBySearch(p.Clues...)
		checkSolutions(t, name, p, all)
		checkClues(t, name, p)
		checkHarder(t, name, p, all)
		checkPuzzleText(t, p)
	}
}

// checkSolutions compares what is told of the solutions with all of them. Each of them has to fit all clues, as promise 9 has it.
func checkSolutions(t *testing.T, name string, p impl.Puzzle, all [][]int) {
	t.Helper()
	solutions, ok := impl.Solutions(p)
	wantPlan(t, "Solutions "+name, solutions, ok, all)
	n, ok := impl.CountSolutions(p)
	wantNumber(t, "CountSolutions "+name, n, ok, len(all))
	is, ok := impl.IsSolved(p)
	wantBool(t, "IsSolved "+name, is, ok, len(all) == 1)
	for _, list := range solutions {
		for _, c := range p.Clues {
			is, ok := impl.DoesFit(c, list)
			wantBool(t, payName("DoesFit "+clueTextBySearch(c), list), is, ok, true)
		}
	}
	first, ok := impl.FirstSolution(p)
	sure, told := impl.SurePieces(p)
	if len(all) == 0 {
		wantNoList(t, "FirstSolution "+name, first, ok)
		wantNoList(t, "SurePieces "+name, sure, told)
		return
	}
	wantList(t, "FirstSolution "+name, first, ok, all[0])
	wantList(t, "SurePieces "+name, sure, told, sureBySearch(all))
}

// checkClues compares what is told of single clues with the search.
func checkClues(t *testing.T, name string, p impl.Puzzle) {
	t.Helper()
	needless, ok := impl.NeedlessClues(p)
	wantList(t, "NeedlessClues "+name, needless, ok, needlessCluesBySearch(p.Clues))
	left, best := []int{210}, 0
	for k, c := range p.Clues {
		left = append(left, len(solutionsBySearch(p.Clues[:k+1]...)))
		if len(solutionsBySearch(c)) < len(solutionsBySearch(p.Clues[best])) {
			best = k
		}
		less, ok := impl.DropClue(p, k)
		wantPuzzle(t, named("DropClue "+name, k), less, ok, clueLess(p.Clues, k)...)
	}
	told, ok := impl.LeftByClues(p)
	wantList(t, "LeftByClues "+name, told, ok, left)
	index, ok := impl.BestClue(p)
	if len(p.Clues) == 0 {
		wantNoNumber(t, "BestClue "+name, index, ok)
	} else {
		wantNumber(t, "BestClue "+name, index, ok, best)
	}
	for _, c := range []impl.Clue{{Kind: 0, A: 0, B: 0}, {Kind: 4, A: 24, B: 16}, {Kind: 5, A: 1, B: 0}} {
		more, ok := impl.AddClue(p, c)
		if len(p.Clues) == impl.MaxClues {
			wantNoPuzzle(t, "AddClue "+name, more, ok)
		} else {
			wantPuzzle(t, "AddClue "+name, more, ok, append(slices.Clone(p.Clues), c)...)
		}
	}
}

// checkHarder compares the harder puzzle with the search. By promise 9 the same pieces solve it, and as no clue of it is needless, no puzzle is harder.
func checkHarder(t *testing.T, name string, p impl.Puzzle, all [][]int) {
	t.Helper()
	harder, ok := impl.HarderPuzzle(p)
	if len(all) != 1 {
		wantNoPuzzle(t, "HarderPuzzle "+name, harder, ok)
		return
	}
	wantPuzzle(t, "HarderPuzzle "+name, harder, ok, harderBySearch(p.Clues)...)
	solutions, ok := impl.Solutions(harder)
	wantPlan(t, "Solutions of HarderPuzzle "+name, solutions, ok, all)
	needless, ok := impl.NeedlessClues(harder)
	wantList(t, "NeedlessClues of HarderPuzzle "+name, needless, ok, nil)
	again, ok := impl.HarderPuzzle(harder)
	wantPuzzle(t, "HarderPuzzle of HarderPuzzle "+name, again, ok, harder.Clues...)
}

func checkPuzzleText(t *testing.T, p impl.Puzzle) {
	t.Helper()
	want := clueTextBySearch(p.Clues...)
	text, ok := impl.PuzzleText(p)
	wantText(t, "PuzzleText "+want, text, ok, want)
	parsed, ok := impl.ParsePuzzle(want)
	wantPuzzle(t, "ParsePuzzle "+want, parsed, ok, p.Clues...)
}

func TestPuzzlesAreMadeAsInTheSearch(t *testing.T) {
	seeds := []int{0, 1, 2, 3, 5, 7, 42, 999, 5003, 5555, 9998, 9999}
	for _, list := range allHidden {
		for _, seed := range seeds {
			checkMade(t, list, impl.MaxClues, seed)
		}
	}
	for seed := range 10000 {
		checkMade(t, allHidden[seed%210], seed%7, seed)
	}
}

// checkMade compares a puzzle that is made with the search. The pieces have to fit all its clues.
func checkMade(t *testing.T, list []int, clues, seed int) {
	t.Helper()
	name := payName("MakePuzzle", list, clues, seed)
	p, ok := impl.MakePuzzle(list, clues, seed)
	wantPuzzle(t, name, p, ok, madeBySearch(list, clues, seed)...)
	if len(p.Clues) != clues || !impl.IsPuzzle(p) {
		t.Error(name, "is", p)
	}
	for _, c := range p.Clues {
		is, ok := impl.DoesFit(c, list)
		wantBool(t, "DoesFit of "+name, is, ok, true)
	}
}

func TestMadePuzzlesAreSolvedAsInTheSearch(t *testing.T) {
	solved := 0
	for i, list := range allHidden {
		for clues := range impl.MaxClues + 1 {
			p, _ := impl.MakePuzzle(list, clues, 37*i+clues)
			name := clueTextBySearch(p.Clues...)
			all := solutionsBySearch(p.Clues...)
			checkSolutions(t, name, p, all)
			checkHarder(t, name, p, all)
			if len(all) == 1 {
				solved++
			}
		}
	}
	if solved < 100 {
		t.Error("only", solved, "puzzles that are made are solved")
	}
}

func TestCluesThatAreAddedOneByOne(t *testing.T) {
	p := impl.Puzzle{}
	for k, c := range puzzleWith("0.4.0,1.10.0,2.3.1,3.10.0,4.3.2,5.1.1").Clues {
		more, ok := impl.AddClue(p, c)
		wantPuzzle(t, "AddClue "+clueTextBySearch(c), more, ok, append(slices.Clone(p.Clues), c)...)
		back, ok := impl.DropClue(more, k)
		wantPuzzle(t, "DropClue", back, ok, p.Clues...)
		p = more
	}
	more, ok := impl.AddClue(p, impl.Clue{Kind: 2, A: 0, B: 1})
	wantNoPuzzle(t, "AddClue at MaxClues", more, ok)
	less, ok := impl.DropClue(p, 0)
	wantPuzzle(t, "DropClue 0", less, ok, puzzleWith("1.10.0,2.3.1,3.10.0,4.3.2,5.1.1").Clues...)
	less, ok = impl.DropClue(p, 5)
	wantPuzzle(t, "DropClue 5", less, ok, puzzleWith("0.4.0,1.10.0,2.3.1,3.10.0,4.3.2").Clues...)
	less, ok = impl.DropClue(puzzleWith("1.10.0"), 0)
	wantPuzzle(t, "DropClue of the only clue", less, ok)
}
