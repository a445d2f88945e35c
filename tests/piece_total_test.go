package tests

import (
	"math"
	"reflect"
	"slices"
	"testing"

	"loop.example/g01305/impl"
)

// anyLists returns pieces and lists that are none.
func anyLists() [][]int {
	return [][]int{nil, {}, {1}, {1, 2, 4}, {1, 3, 3}, {5, 5, 5, 5}, {1, 2, 9}, {10000}, doubled(12), doubled(13), repeated(7, 19),
		repeated(1, 20), repeated(10000, 20), repeated(1, 21), repeated(1, 5000), {0}, {-3}, {2, 1}, {10001}, {1, 0, 1},
		{math.MinInt}, {math.MaxInt}, {math.MaxInt, math.MaxInt}, {math.MinInt, -1, 0, 1, math.MaxInt}}
}

func anyNumbers() []int {
	return []int{math.MinInt, math.MinInt + 1, -10000, -1, 0, 1, 2, 3, 4, 5, 7, 9, 10, 9999, 10000, 10001, 100000, 199999, 200000, 200001, math.MaxInt - 1, math.MaxInt}
}

// numberedFunctions returns all functions of chapter 1 that take pieces and perhaps a number, made alike.
// Those that return no list return nil.
func numberedFunctions() map[string]func([]int, int) []int {
	calls := map[string]func([]int, int) []int{
		"ArePieces":   func(l []int, n int) []int { impl.ArePieces(l); return nil },
		"CanMake":     func(l []int, n int) []int { impl.CanMake(l, n); return nil },
		"WaysOf":      func(l []int, n int) []int { impl.WaysOf(l, n); return nil },
		"FewestFor":   func(l []int, n int) []int { impl.FewestFor(l, n); return nil },
		"ClosestSum":  func(l []int, n int) []int { impl.ClosestSum(l, n); return nil },
		"PiecesText":  func(l []int, n int) []int { impl.PiecesText(l); return nil },
		"FirstWay":    func(l []int, n int) []int { r, _ := impl.FirstWay(l, n); return r },
		"PutPiece":    func(l []int, n int) []int { r, _ := impl.PutPiece(l, n); return r },
		"TakePiece":   func(l []int, n int) []int { r, _ := impl.TakePiece(l, n); return r },
		"ParsePieces": func(l []int, n int) []int { s, _ := impl.PiecesText(l); r, _ := impl.ParsePieces(s); return r },
	}
	for name, f := range numberFunctions() {
		calls[name] = func(l []int, n int) []int { f(l); return nil }
	}
	for name, f := range listFunctions() {
		calls[name] = func(l []int, n int) []int { r, _ := f(l); return r }
	}
	return calls
}

const spare = -77

// withSpare returns memory that goes on behind the list, filled, and the list in front of it.
func withSpare(list []int) (whole, front []int) {
	whole = append(slices.Clone(list), repeated(spare, 25)...)
	return whole, whole[:len(list)]
}

func TestNoCallPanicsOrModifies(t *testing.T) {
	for name, call := range numberedFunctions() {
		for _, list := range anyLists() {
			for _, n := range anyNumbers() {
				checkCall(t, name, call, list, n)
			}
		}
	}
}

func checkCall(t *testing.T, name string, call func([]int, int) []int, list []int, n int) {
	t.Helper()
	defer func() {
		if r := recover(); r != nil {
			t.Errorf("%s panics for %d: %v", name, n, r)
		}
	}()
	whole, front := withSpare(list)
	before := slices.Clone(whole)
	first := call(front, n)
	if !slices.Equal(whole, before) {
		t.Errorf("%s modifies its argument", name)
	}
	told := slices.Clone(first)
	fillAll(first)
	if !slices.Equal(whole, before) {
		t.Errorf("%s returns memory of its argument", name)
	}
	second := call(front, n)
	fillAll(whole)
	if !slices.Equal(second, told) {
		t.Errorf("%s returns memory of its argument or of an earlier result", name)
	}
}

// fillAll writes to all memory of a list, that behind its length too.
func fillAll(list []int) {
	list = list[:cap(list)]
	for i := range list {
		list[i] = spare - 1
	}
}

func TestParsePiecesTakesAllTexts(t *testing.T) {
	checkAllTexts(t, "ParsePieces", "0123+-9 \n\x00\xff", 4, impl.ParsePieces, impl.PiecesText)
}

// checkAllTexts parses all texts of at most so many of the bytes: just those may be taken that are written for what they tell.
func checkAllTexts[T any](t *testing.T, name, signs string, longest int, parse func(string) (T, bool), write func(T) (string, bool)) {
	t.Helper()
	var try func(s string)
	try = func(s string) {
		told, ok := parse(s)
		if text, written := write(told); ok && (!written || text != s) {
			t.Errorf("%s takes %q", name, s)
		}
		if !ok && !reflect.ValueOf(told).IsZero() {
			t.Errorf("%s fails for %q with %v", name, s, told)
		}
		if len(s) == longest {
			return
		}
		for _, b := range []byte(signs) {
			try(s + string([]byte{b}))
		}
	}
	try("")
}
