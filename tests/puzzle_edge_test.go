package tests

import (
	"math"
	"slices"
	"strings"
	"testing"

	"loop.example/g01305/impl"
)

// namedPuzzle has what is told of a puzzle, written out. For several solutions first tells the first ones of them.
type namedPuzzle struct {
	text     string
	count    int
	first    [][]int
	sure     []int
	needless []int
	left     []int
	best     int
	harder   string
}

func namedPuzzles() []namedPuzzle {
	sixes := [][]int{{6, 6, 6, 6}}
	return []namedPuzzle{
		{"0.0.0", 1, [][]int{{}}, nil, nil, []int{210, 1}, 0, "0.0.0"},
		{"1.0.0", 1, [][]int{{}}, nil, nil, []int{210, 1}, 0, "1.0.0"},
		{"0.1.0", 6, [][]int{{1}, {2}, {3}, {4}, {5}, {6}}, nil, nil, []int{210, 6}, 0, ""},
		{"0.4.0", 126, [][]int{{1, 1, 1, 1}, {1, 1, 1, 2}}, nil, nil, []int{210, 126}, 0, ""},
		{"0.4.0,0.3.0", 0, nil, nil, nil, []int{210, 126, 0}, 1, ""},
		{"0.4.0,0.3.0,1.24.0", 0, nil, nil, []int{0, 2}, []int{210, 126, 0, 0}, 2, ""},
		{"1.24.0", 1, sixes, sixes[0], nil, []int{210, 1}, 0, "1.24.0"},
		{"1.24.0,1.24.0", 1, sixes, sixes[0], []int{0, 1}, []int{210, 1, 1}, 0, "1.24.0"},
		{"1.24.0,1.24.0,1.24.0,1.24.0,1.24.0,1.24.0", 1, sixes, sixes[0], []int{0, 1, 2, 3, 4, 5}, []int{210, 1, 1, 1, 1, 1, 1}, 0, "1.24.0"},
		{"1.22.0", 2, [][]int{{4, 6, 6, 6}, {5, 5, 6, 6}}, []int{6, 6}, nil, []int{210, 2}, 0, ""},
		{"1.4.0", 5, [][]int{{1, 1, 1, 1}, {1, 1, 2}, {1, 3}, {2, 2}, {4}}, nil, nil, []int{210, 5}, 0, ""},
		{"1.4.0,3.4.0", 2, [][]int{{1, 1, 1, 1}, {1, 1, 2}}, []int{1, 1}, nil, []int{210, 5, 2}, 1, ""},
		{"1.4.0,2.1.1", 3, [][]int{{1, 1, 1, 1}, {1, 1, 2}, {1, 3}}, []int{1}, nil, []int{210, 5, 3}, 0, ""},
		{"3.0.0", 126, [][]int{{}, {2}, {2, 2}, {2, 2, 2}, {2, 2, 2, 2}, {2, 2, 2, 3}}, nil, nil, []int{210, 126}, 0, ""},
		{"3.12.0", 2, [][]int{{1, 2, 3, 6}, {1, 2, 4, 5}}, []int{1, 2}, nil, []int{210, 2}, 0, ""},
		{"3.13.0", 1, [][]int{{1, 2, 4, 6}}, []int{1, 2, 4, 6}, nil, []int{210, 1}, 0, "3.13.0"},
		{"3.14.0", 0, nil, nil, nil, []int{210, 0}, 0, ""},
		{"3.24.0", 0, nil, nil, nil, []int{210, 0}, 0, ""},
		{"2.0.0", 0, nil, nil, nil, []int{210, 0}, 0, ""},
		{"2.0.1", 210, [][]int{{}, {1}, {1, 1}}, nil, []int{0}, []int{210, 210}, 0, ""},
		{"2.24.0", 209, [][]int{{}, {1}, {1, 1}}, nil, nil, []int{210, 209}, 0, ""},
		{"2.24.1", 1, sixes, sixes[0], nil, []int{210, 1}, 0, "2.24.1"},
		{"4.0.0", 0, nil, nil, nil, []int{210, 0}, 0, ""},
		{"4.0.1", 210, [][]int{{}, {1}, {1, 1}}, nil, []int{0}, []int{210, 210}, 0, ""},
		{"4.0.16", 0, nil, nil, nil, []int{210, 0}, 0, ""},
		{"4.24.0", 209, [][]int{{}, {1}, {1, 1}}, nil, nil, []int{210, 209}, 0, ""},
		{"4.24.1", 1, sixes, sixes[0], nil, []int{210, 1}, 0, "4.24.1"},
		{"4.24.16", 0, nil, nil, nil, []int{210, 0}, 0, ""},
		{"4.6.6", 1, [][]int{{3, 3, 3, 3}}, []int{3, 3, 3, 3}, nil, []int{210, 1}, 0, "4.6.6"},
		{"0.4.0,4.6.4", 6, [][]int{{1, 1, 5, 5}, {2, 2, 2, 2}, {2, 2, 2, 4}, {2, 2, 4, 4}, {3, 3, 3, 6}, {6, 6, 6, 6}}, nil, []int{0}, []int{210, 126, 6}, 1, ""},
		{"5.1.0", 126, [][]int{{}, {2}, {2, 2}}, nil, nil, []int{210, 126}, 0, ""},
		{"5.1.4", 1, [][]int{{1, 1, 1, 1}}, []int{1, 1, 1, 1}, nil, []int{210, 1}, 0, "5.1.4"},
		{"5.6.0", 126, [][]int{{}, {1}, {1, 1}}, nil, nil, []int{210, 126}, 0, ""},
		{"5.6.4", 1, sixes, sixes[0], nil, []int{210, 1}, 0, "5.6.4"},
		{"5.3.2,5.3.2", 21, [][]int{{1, 1, 3, 3}, {1, 2, 3, 3}, {1, 3, 3}}, []int{3, 3}, []int{0, 1}, []int{210, 21, 21}, 0, ""},
		{"5.2.2,5.3.1", 5, [][]int{{1, 2, 2, 3}, {2, 2, 3}, {2, 2, 3, 4}, {2, 2, 3, 5}, {2, 2, 3, 6}}, []int{2, 2, 3}, nil, []int{210, 21, 5}, 0, ""},
		// Both 0.2.0 and 5.1.2 leave 21.
		{"0.2.0,5.1.2", 1, [][]int{{1, 1}}, []int{1, 1}, nil, []int{210, 21, 1}, 0, "0.2.0,5.1.2"},
		{"5.1.0,5.1.2,0.2.0", 0, nil, nil, []int{2}, []int{210, 126, 0, 0}, 1, ""},
		// All clues are needed.
		{"0.2.0,1.7.0,2.3.1", 1, [][]int{{3, 4}}, []int{3, 4}, nil, []int{210, 21, 3, 1}, 1, "0.2.0,1.7.0,2.3.1"},
		// The first clues can go, or those behind.
		{"0.4.0,2.6.1,1.24.0", 1, sixes, sixes[0], []int{0, 1}, []int{210, 126, 109, 1}, 2, "1.24.0"},
		{"1.24.0,0.4.0,2.6.1", 1, sixes, sixes[0], []int{1, 2}, []int{210, 1, 1, 1}, 0, "1.24.0"},
		{"3.7.0,0.3.0,2.7.1", 1, [][]int{{1, 2, 4}}, []int{1, 2, 4}, []int{2}, []int{210, 4, 1, 1}, 0, "3.7.0,0.3.0"},
		// Each clue alone can go, but without the first one all others are needed.
		{"1.7.0,5.2.2,5.3.1,0.3.0", 1, [][]int{{2, 2, 3}}, []int{2, 2, 3}, []int{0, 1, 2, 3}, []int{210, 10, 1, 1, 1}, 0, "5.2.2,5.3.1,0.3.0"},
		{"1.10.0,0.4.0,3.10.0,5.1.1,4.3.2", 2, [][]int{{1, 2, 2, 5}, {1, 2, 3, 4}}, []int{1, 2}, []int{0, 1, 2, 3, 4}, []int{210, 16, 8, 3, 2, 2}, 2, ""},
		// MaxClues clues.
		{"4.10.1,2.3.0,0.3.0,5.5.2,1.14.0,3.0.0", 1, [][]int{{4, 5, 5}}, []int{4, 5, 5}, []int{0, 1, 3, 5}, []int{210, 58, 25, 10, 4, 1, 1}, 4, "0.3.0,5.5.2,1.14.0"},
		{"2.1.1,2.2.1,2.3.1,2.4.1,2.5.1,2.6.1", 24, [][]int{{1, 1, 1, 3}, {1, 1, 1, 4}, {1, 1, 2, 2}}, []int{1}, nil, []int{210, 84, 49, 39, 30, 27, 24}, 0, ""},
	}
}

func TestNamedPuzzles(t *testing.T) {
	for _, n := range namedPuzzles() {
		p := puzzleWith(n.text)
		all, ok := impl.Solutions(p)
		if !ok || len(all) != n.count || !slices.EqualFunc(all[:len(n.first)], n.first, slices.Equal) {
			t.Errorf("Solutions %s: got %v, %v", n.text, all, ok)
		}
		checkSolutions(t, n.text, p, all)
		if n.count > 0 {
			sure, ok := impl.SurePieces(p)
			wantList(t, "SurePieces "+n.text, sure, ok, n.sure)
		}
		needless, ok := impl.NeedlessClues(p)
		wantList(t, "NeedlessClues "+n.text, needless, ok, n.needless)
		left, ok := impl.LeftByClues(p)
		wantList(t, "LeftByClues "+n.text, left, ok, n.left)
		best, ok := impl.BestClue(p)
		wantNumber(t, "BestClue "+n.text, best, ok, n.best)
		harder, ok := impl.HarderPuzzle(p)
		if n.harder == "" {
			wantNoPuzzle(t, "HarderPuzzle "+n.text, harder, ok)
		} else {
			wantPuzzle(t, "HarderPuzzle "+n.text, harder, ok, puzzleWith(n.harder).Clues...)
		}
		checkPuzzleText(t, p)
	}
}

func TestPuzzlesWithoutClues(t *testing.T) {
	for _, p := range []impl.Puzzle{{}, {Clues: []impl.Clue{}}} {
		if !impl.IsPuzzle(p) {
			t.Error("IsPuzzle does not take no clue")
		}
		solutions, ok := impl.Solutions(p)
		wantPlan(t, "Solutions of no clue", solutions, ok, allHidden)
		n, ok := impl.CountSolutions(p)
		wantNumber(t, "CountSolutions of no clue", n, ok, 210)
		list, ok := impl.FirstSolution(p)
		wantList(t, "FirstSolution of no clue", list, ok, nil)
		list, ok = impl.SurePieces(p)
		wantList(t, "SurePieces of no clue", list, ok, nil)
		is, ok := impl.IsSolved(p)
		wantBool(t, "IsSolved of no clue", is, ok, false)
		list, ok = impl.NeedlessClues(p)
		wantList(t, "NeedlessClues of no clue", list, ok, nil)
		list, ok = impl.LeftByClues(p)
		wantList(t, "LeftByClues of no clue", list, ok, []int{210})
		n, ok = impl.BestClue(p)
		wantNoNumber(t, "BestClue of no clue", n, ok)
		other, ok := impl.HarderPuzzle(p)
		wantNoPuzzle(t, "HarderPuzzle of no clue", other, ok)
		wantNoIndexOfClue(t, p, 0)
		text, ok := impl.PuzzleText(p)
		wantText(t, "PuzzleText of no clue", text, ok, "")
		parsed, ok := impl.ParsePuzzle("")
		wantPuzzle(t, "ParsePuzzle of the empty text", parsed, ok)
	}
}

func TestFitsAtTheBounds(t *testing.T) {
	for _, c := range []struct {
		clue string
		list []int
		fits bool
	}{
		{"0.0.0", nil, true}, {"0.0.0", []int{1}, false}, {"0.1.0", nil, false}, {"0.4.0", []int{6, 6, 6, 6}, true}, {"0.4.0", []int{6, 6, 6}, false}, {"0.3.0", []int{1, 1, 1, 1}, false},
		{"1.0.0", nil, true}, {"1.0.0", []int{1}, false}, {"1.1.0", nil, false}, {"1.24.0", []int{6, 6, 6, 6}, true}, {"1.24.0", []int{5, 6, 6, 6}, false}, {"1.23.0", []int{5, 6, 6, 6}, true},
		{"2.0.1", nil, true}, {"2.0.0", nil, false}, {"2.0.1", []int{6, 6, 6, 6}, true}, {"2.0.0", []int{6, 6, 6, 6}, false}, {"2.1.0", nil, true}, {"2.24.0", nil, true}, {"2.24.1", nil, false},
		{"2.24.1", []int{6, 6, 6, 6}, true}, {"2.24.0", []int{6, 6, 6, 6}, false}, {"2.24.0", []int{5, 6, 6, 6}, true}, {"2.3.1", []int{1, 2, 6}, true}, {"2.4.1", []int{1, 2, 6}, false}, {"2.4.0", []int{1, 2, 6}, true},
		{"3.0.0", nil, true}, {"3.0.0", []int{2, 3}, true}, {"3.1.0", nil, false}, {"3.13.0", []int{1, 2, 4, 6}, true}, {"3.4.0", []int{1, 1, 1, 1}, true}, {"3.3.0", []int{1, 1, 1, 1}, false}, {"3.24.0", []int{6, 6, 6, 6}, false},
		{"4.0.1", nil, true}, {"4.0.0", nil, false}, {"4.0.16", nil, false}, {"4.0.1", []int{6, 6, 6, 6}, true}, {"4.24.1", []int{6, 6, 6, 6}, true}, {"4.24.16", []int{6, 6, 6, 6}, false}, {"4.12.6", []int{6, 6, 6, 6}, true},
		{"4.6.4", []int{6, 6, 6, 6}, true}, {"4.6.1", []int{6, 6, 6, 6}, false}, {"4.7.0", []int{6, 6, 6, 6}, true}, {"4.24.0", nil, true}, {"4.2.6", []int{1, 1, 1, 1}, true}, {"4.3.2", []int{1, 2, 3}, true},
		{"5.1.0", nil, true}, {"5.1.4", nil, false}, {"5.1.4", []int{1, 1, 1, 1}, true}, {"5.1.3", []int{1, 1, 1, 1}, false}, {"5.6.4", []int{6, 6, 6, 6}, true}, {"5.6.0", []int{6, 6, 6, 6}, false}, {"5.6.2", []int{1, 1, 6, 6}, true}, {"5.2.0", []int{1, 1, 6, 6}, true},
	} {
		is, ok := impl.DoesFit(puzzleWith(c.clue).Clues[0], c.list)
		wantBool(t, payName("DoesFit "+c.clue, c.list), is, ok, c.fits)
	}
}

func TestNamedPuzzlesThatAreMade(t *testing.T) {
	for _, c := range []struct {
		list []int
		seed int
		text string
	}{
		{nil, 0, "5.2.0,3.0.0,2.6.0,4.18.0,0.0.0,3.0.0"},
		{nil, 9999, "1.0.0,4.21.0,2.4.0,3.0.0,5.6.0,1.0.0"},
		{[]int{3, 4}, 0, "5.2.0,3.0.0,2.6.0,4.18.0,0.2.0,3.0.0"},
		{[]int{3, 4}, 1, "4.16.0,5.6.0,2.8.0,4.8.0,0.2.0,2.11.0"},
		{[]int{3, 4}, 9999, "1.7.0,4.21.0,2.4.1,3.0.0,5.6.0,1.7.0"},
		{[]int{1, 2, 4}, 0, "5.2.1,3.7.0,2.6.1,4.18.0,0.3.0,3.7.0"},
		{[]int{6, 6, 6, 6}, 0, "5.2.0,3.0.0,2.6.1,4.18.4,0.4.0,3.0.0"},
		{[]int{6, 6, 6, 6}, 1, "4.16.0,5.6.4,2.8.0,4.8.0,0.4.0,2.11.0"},
		{[]int{6, 6, 6, 6}, 9999, "1.24.0,4.21.0,2.4.0,3.0.0,5.6.4,1.24.0"},
	} {
		whole := puzzleWith(c.text).Clues
		for clues := range 7 {
			p, ok := impl.MakePuzzle(c.list, clues, c.seed)
			wantPuzzle(t, payName("MakePuzzle", c.list, clues, c.seed), p, ok, whole[:clues]...)
		}
	}
}

func greatNumbers() []int {
	return []int{math.MinInt, math.MinInt + 1, -1 << 32, -25, -1, 7, 25, 256, 1 << 32, 1<<32 + 1, 1 << 62, math.MaxInt - 1, math.MaxInt}
}

// noClues returns clues that are none, all but for one of their numbers, or two.
func noClues() []impl.Clue {
	clues := []impl.Clue{{Kind: -1}, {Kind: 6}, {Kind: -1, A: 1}, {Kind: 6, A: 1, B: 1}, {Kind: 5}, {Kind: 5, A: 7}, {Kind: 5, B: 1}}
	for kind, bounds := range boundsOfKinds {
		for _, a := range []int{bounds[0], 2, bounds[1]} {
			clues = append(clues, impl.Clue{Kind: kind, A: a, B: -1}, impl.Clue{Kind: kind, A: a, B: bounds[2] + 1})
			for _, n := range greatNumbers() {
				if n < 0 || n > 16 {
					clues = append(clues, impl.Clue{Kind: kind, A: a, B: n})
				}
				if n < 0 || n > 6 {
					clues = append(clues, impl.Clue{Kind: n, A: a, B: 0})
				}
			}
		}
		for _, b := range []int{0, bounds[2]} {
			clues = append(clues, impl.Clue{Kind: kind, A: bounds[0] - 1, B: b}, impl.Clue{Kind: kind, A: bounds[1] + 1, B: b})
			for _, n := range greatNumbers() {
				if n < 0 || n > 24 {
					clues = append(clues, impl.Clue{Kind: kind, A: n, B: b})
				}
			}
		}
	}
	return clues
}

func TestCluesThatAreNone(t *testing.T) {
	for _, c := range noClues() {
		if impl.IsClue(c) {
			t.Error("IsClue takes", c)
		}
		for _, list := range [][]int{nil, {1}, {3, 4}, {6, 6, 6, 6}, {0}, repeated(1, 5)} {
			is, ok := impl.DoesFit(c, list)
			wantNoBool(t, payName("DoesFit "+clueTextBySearch(c), list), is, ok)
		}
		for _, text := range []string{"", "0.2.0", "0.0.0,0.1.0", "0.2.0,1.7.0,2.3.1", "0.4.0,1.10.0,2.3.1,3.10.0,4.3.2", "0.4.0,1.10.0,2.3.1,3.10.0,4.3.2,5.1.1"} {
			p := puzzleWith(text)
			more, ok := impl.AddClue(p, c)
			wantNoPuzzle(t, "AddClue "+clueTextBySearch(c), more, ok)
			if len(p.Clues) < impl.MaxClues {
				wantNoPuzzleTaken(t, append([]impl.Clue{c}, p.Clues...)...)
				wantNoPuzzleTaken(t, append(p.Clues, c)...)
			}
		}
		wantNoPuzzleTaken(t, slices.Repeat([]impl.Clue{c}, 6)...)
	}
}

// wantNoPuzzleTaken checks that no function takes clues for a puzzle.
func wantNoPuzzleTaken(t *testing.T, clues ...impl.Clue) {
	t.Helper()
	p, name := impl.Puzzle{Clues: clues}, clueTextBySearch(clues...)
	if impl.IsPuzzle(p) {
		t.Error("IsPuzzle takes", name)
	}
	solutions, ok := impl.Solutions(p)
	wantNoPlan(t, "Solutions "+name, solutions, ok)
	n, ok := impl.CountSolutions(p)
	wantNoNumber(t, "CountSolutions "+name, n, ok)
	n, ok = impl.BestClue(p)
	wantNoNumber(t, "BestClue "+name, n, ok)
	is, ok := impl.IsSolved(p)
	wantNoBool(t, "IsSolved "+name, is, ok)
	list, ok := impl.FirstSolution(p)
	wantNoList(t, "FirstSolution "+name, list, ok)
	list, ok = impl.SurePieces(p)
	wantNoList(t, "SurePieces "+name, list, ok)
	list, ok = impl.NeedlessClues(p)
	wantNoList(t, "NeedlessClues "+name, list, ok)
	list, ok = impl.LeftByClues(p)
	wantNoList(t, "LeftByClues "+name, list, ok)
	other, ok := impl.HarderPuzzle(p)
	wantNoPuzzle(t, "HarderPuzzle "+name, other, ok)
	other, ok = impl.AddClue(p, impl.Clue{Kind: 0, A: 2})
	wantNoPuzzle(t, "AddClue "+name, other, ok)
	for _, k := range []int{-1, 0, len(clues) - 1, len(clues)} {
		wantNoIndexOfClue(t, p, k)
	}
	text, ok := impl.PuzzleText(p)
	wantNoText(t, "PuzzleText "+name, text, ok)
	if len(clues) <= 10 {
		wantNoParsedPuzzle(t, name)
	}
}

func wantNoParsedPuzzle(t *testing.T, text string) {
	t.Helper()
	p, ok := impl.ParsePuzzle(text)
	wantNoPuzzle(t, "ParsePuzzle "+text[:min(len(text), 60)], p, ok)
}

func wantNoIndexOfClue(t *testing.T, p impl.Puzzle, k int) {
	t.Helper()
	less, ok := impl.DropClue(p, k)
	wantNoPuzzle(t, named("DropClue "+clueTextBySearch(p.Clues...), k), less, ok)
}

func TestTooManyClues(t *testing.T) {
	one := puzzleWith("0.2.0").Clues
	wantNoPuzzleTaken(t, slices.Repeat(one, 7)...)
	wantNoPuzzleTaken(t, puzzleWith("0.4.0,1.10.0,2.3.1,3.10.0,4.3.2,5.1.1,2.0.1").Clues...)
	wantNoPuzzleTaken(t, slices.Repeat(one, 8)...)
	wantNoPuzzleTaken(t, slices.Repeat(one, 5000)...)
	wantNoPuzzleTaken(t, make([]impl.Clue, 7)...)
	if !impl.IsPuzzle(impl.Puzzle{Clues: make([]impl.Clue, 6)}) {
		t.Error("IsPuzzle does not take MaxClues clues")
	}
}

func TestIndicesThatAreNoClues(t *testing.T) {
	for _, text := range []string{"", "0.2.0", "0.2.0,1.7.0,2.3.1", "0.4.0,1.10.0,2.3.1,3.10.0,4.3.2,5.1.1"} {
		p := puzzleWith(text)
		for _, k := range []int{-1, -2, -6, len(p.Clues), len(p.Clues) + 1, 6, 7, 100, math.MinInt, math.MaxInt} {
			wantNoIndexOfClue(t, p, k)
		}
	}
}

func TestListsThatAreNoHiddenPieces(t *testing.T) {
	for _, list := range [][]int{
		repeated(1, 5), {1, 2, 3, 4, 5}, repeated(6, 5), repeated(1, 20), repeated(1, 21), repeated(1, 5000), {2, 1}, {6, 5, 6, 6}, {1, 3, 2}, {6, 6, 6, 5},
		{0}, {0, 1}, {0, 0, 0, 0}, {7}, {6, 7}, {1, 2, 3, 7}, {7, 7, 7, 7}, {10000}, {10001}, {-1}, {-1, 1}, {-1, -1},
		{math.MinInt}, {math.MaxInt}, {math.MinInt, 1}, {1, math.MaxInt}, {math.MaxInt, math.MaxInt}, {math.MinInt, math.MinInt, math.MinInt, math.MaxInt},
	} {
		if impl.IsHidden(list) {
			t.Error(payName("IsHidden takes", list))
		}
		for kind := range 6 {
			for _, c := range allClues(kind) {
				is, ok := impl.DoesFit(c, list)
				wantNoBool(t, payName("DoesFit "+clueTextBySearch(c), list), is, ok)
			}
		}
		for clues := range 7 {
			for _, seed := range []int{0, 1, 9999} {
				wantNoMade(t, list, clues, seed)
			}
		}
	}
}

func wantNoMade(t *testing.T, list []int, clues, seed int) {
	t.Helper()
	p, ok := impl.MakePuzzle(list, clues, seed)
	wantNoPuzzle(t, payName("MakePuzzle", list, clues, seed), p, ok)
}

func TestNumbersOfWhichNoPuzzleIsMade(t *testing.T) {
	for _, list := range [][]int{nil, {3, 4}, {6, 6, 6, 6}} {
		for _, clues := range []int{-1, -6, 7, 8, 1 << 32, math.MinInt, math.MaxInt} {
			for _, seed := range []int{0, 1, 9999, -1, 10000} {
				wantNoMade(t, list, clues, seed)
			}
		}
		for _, seed := range []int{-1, -9999, 10000, 10006, 10007, 1 << 32, math.MinInt, math.MaxInt} {
			for clues := range 7 {
				wantNoMade(t, list, clues, seed)
			}
		}
	}
}

func TestPuzzleTexts(t *testing.T) {
	for text, clues := range map[string][]impl.Clue{
		"":                                     nil,
		"0.0.0":                                {{Kind: 0, A: 0, B: 0}},
		"1.24.0":                               {{Kind: 1, A: 24, B: 0}},
		"4.24.16":                              {{Kind: 4, A: 24, B: 16}},
		"4.0.10,5.6.4":                         {{Kind: 4, A: 0, B: 10}, {Kind: 5, A: 6, B: 4}},
		"2.9.1,2.10.0":                         {{Kind: 2, A: 9, B: 1}, {Kind: 2, A: 10, B: 0}},
		"3.10.0,3.10.0":                        {{Kind: 3, A: 10, B: 0}, {Kind: 3, A: 10, B: 0}},
		"0.4.0,1.9.0,2.1.1,4.2.12":             {{Kind: 0, A: 4, B: 0}, {Kind: 1, A: 9, B: 0}, {Kind: 2, A: 1, B: 1}, {Kind: 4, A: 2, B: 12}},
		"5.1.0,4.3.2,3.1.0,2.3.0,1.11.0,0.4.0": {{Kind: 5, A: 1, B: 0}, {Kind: 4, A: 3, B: 2}, {Kind: 3, A: 1, B: 0}, {Kind: 2, A: 3, B: 0}, {Kind: 1, A: 11, B: 0}, {Kind: 0, A: 4, B: 0}},
		"4.24.16,4.24.16,4.24.16,4.24.16,4.24.16,4.24.16": slices.Repeat([]impl.Clue{{Kind: 4, A: 24, B: 16}}, 6),
	} {
		p := impl.Puzzle{Clues: clues}
		got, ok := impl.PuzzleText(p)
		wantText(t, "PuzzleText", got, ok, text)
		parsed, ok := impl.ParsePuzzle(text)
		wantPuzzle(t, "ParsePuzzle "+text, parsed, ok, clues...)
	}
}

func TestTextsThatAreNoPuzzles(t *testing.T) {
	for _, text := range []string{
		"0", "0.2", "0.2.", ".2.0", "0..0", "..", ".", ",", ",,", "0.2.0.", ".0.2.0", "0.2.0.0", "0.2.0.1", "2.3", "0.2.0,", ",0.2.0", "0.2.0,,1.7.0", "0.2.0,1.7", "0.2.0,1.7.0,", "0.2.0,1.7.0.0", "0,2,0", "0.2,0",
		"+0.2.0", "0.+2.0", "0.2.+0", "-0.2.0", "0.-2.0", "0.2.-0", "-1.0.0", "0.-1.0", "2.3.-1", "00.2.0", "0.02.0", "0.2.00", "01.7.0", "1.07.0", "4.3.02", "2.3.01",
		" ", " 0.2.0", "0.2.0 ", "0 .2.0", "0. 2.0", "0.2.0, 1.7.0", "0.2.0 ,1.7.0", "0.2.0\n", "\t0.2.0", "0.2.0\x00", "0.2.0;1.7.0", "0:2:0", "0-2-0", "0.2.0/1.7.0",
		"a", "0.a.0", "0.2.o", "x.2.0", "0.0x2.0", "0.2e0.0", "1.1_0.0", "0.2.0,a", "none", "-", "\xff", "0.2.0\xff", "\u0660.2.0", "0.\u0662.0", "0.2.\uff10", "0\u00b72\u00b70", "\u00e9",
		"6.0.0", "10.0.0", "0.5.0", "0.10.0", "0.2.1", "1.25.0", "1.7.1", "2.25.0", "2.25.1", "2.3.2", "2.3.10", "3.25.0", "3.3.1", "4.25.0", "4.3.17", "4.25.17", "5.0.0", "5.7.0", "5.1.5", "5.10.1",
		"0.256.0", "0.4294967298.0", "4294967296.2.0", "0.2.4294967296", "0.9223372036854775807.0", "0.9223372036854775808.0", "0.18446744073709551618.0", "18446744073709551616.2.0", "0.2.18446744073709551616", "1." + strings.Repeat("9", 400) + ".0", "1." + strings.Repeat("0", 400) + "7.0",
		"0.2.0,0.2.0,0.2.0,0.2.0,0.2.0,0.2.0,0.2.0", "0.2.0,0.2.0,0.2.0,0.2.0,0.2.0,0.2.0,", ",0.2.0,0.2.0,0.2.0,0.2.0,0.2.0,0.2.0", strings.Repeat(",", 100000), strings.Repeat(".", 100000), strings.Repeat("0.2.0,", 20000) + "0.2.0",
	} {
		wantNoParsedPuzzle(t, text)
	}
}
