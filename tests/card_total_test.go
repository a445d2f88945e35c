package tests

import (
	"math"
	"slices"
	"strings"
	"testing"

	"loop.example/g01305/impl"
)

// anyCards returns lists of cards and lists that are none, for some numbers at least.
func anyCards() [][][]int {
	return [][][]int{nil, {}, {{}}, {nil, {}, nil}, {{0}}, {{1}, {1}, {1}}, {{1, 3}, {2, 3}}, {{1, 2}, {1, 3}, {1, 3}, {2, 3}, {2, 3}}, {{0, 1, 2, 3}, {}, {3}},
		slices.Repeat([][]int{firstNumbers(128)}, 12), slices.Repeat([][]int{{0}}, 11), slices.Repeat([][]int{{}}, 12), slices.Repeat([][]int{{}}, 13), slices.Repeat([][]int{{0}}, 14),
		{{1, 0}}, {{0, 0}}, {{-1}}, {{128}}, {{0}, {256}}, {repeated(0, 30)}, {{math.MinInt}}, {{math.MaxInt}}, {{0}, {math.MaxInt, math.MinInt}}}
}

func anyCardNumbers() []int {
	return []int{math.MinInt, -1, 0, 1, 2, 4, 127, 128, 129, 1 << 32, math.MaxInt}
}

func anyAnswers() []string {
	return []string{"", "y", "n", "yy", "yn", "yyn", "nnn", "nynyn", strings.Repeat("y", 11), strings.Repeat("y", 12), strings.Repeat("yn", 6), strings.Repeat("y", 13),
		strings.Repeat("n", 300), "x", "Y", "\xff", "y\xff", "\u00ff", "\u20ac", "y\x00n"}
}

// cardFunctions returns all functions of chapter 6, made alike: they take one list, the lists of cards, their Numbers and another number.
// Those that return no list return nil.
func cardFunctions(answers string) map[string]payCall {
	of := func(call func(list []int, c impl.Cards, n int) [][]int) payCall {
		return func(list []int, lists [][]int, numbers, n int) [][]int {
			return call(list, impl.Cards{Numbers: numbers, Lists: lists}, n)
		}
	}
	return map[string]payCall{
		"AreCards":    of(func(l []int, c impl.Cards, n int) [][]int { impl.AreCards(c); return nil }),
		"BinaryCards": of(func(l []int, c impl.Cards, n int) [][]int { r, _ := impl.BinaryCards(c.Numbers); return r.Lists }),
		"AnswersOf":   of(func(l []int, c impl.Cards, n int) [][]int { impl.AnswersOf(c, n); return nil }),
		"NumbersTold": of(func(l []int, c impl.Cards, n int) [][]int { r, _ := impl.NumbersTold(c, answers); return [][]int{r} }),
		"TellsAll":    of(func(l []int, c impl.Cards, n int) [][]int { impl.TellsAll(c); return nil }),
		"LeastApart":  of(func(l []int, c impl.Cards, n int) [][]int { impl.LeastApart(c); return nil }),
		"LiesFound":   of(func(l []int, c impl.Cards, n int) [][]int { impl.LiesFound(c); return nil }),
		"NumbersWithLies": of(func(l []int, c impl.Cards, n int) [][]int {
			r, _ := impl.NumbersWithLies(c, answers, n)
			return [][]int{r}
		}),
		"LieTold":        of(func(l []int, c impl.Cards, n int) [][]int { impl.LieTold(c, answers); return nil }),
		"CheckedCards":   of(func(l []int, c impl.Cards, n int) [][]int { r, _ := impl.CheckedCards(c.Numbers); return r.Lists }),
		"DropCard":       of(func(l []int, c impl.Cards, n int) [][]int { r, _ := impl.DropCard(c, n); return r.Lists }),
		"AddCard":        of(func(l []int, c impl.Cards, n int) [][]int { r, _ := impl.AddCard(c, l); return r.Lists }),
		"OtherCard":      of(func(l []int, c impl.Cards, n int) [][]int { r, _ := impl.OtherCard(c, n); return r.Lists }),
		"NeedlessCards":  of(func(l []int, c impl.Cards, n int) [][]int { r, _ := impl.NeedlessCards(c); return [][]int{r} }),
		"FewestCardsFor": of(func(l []int, c impl.Cards, n int) [][]int { impl.FewestCardsFor(c.Numbers); return nil }),
		"FirstsSum":      of(func(l []int, c impl.Cards, n int) [][]int { impl.FirstsSum(c, answers); return nil }),
		"IsSumCards":     of(func(l []int, c impl.Cards, n int) [][]int { impl.IsSumCards(c); return nil }),
		"CardsText":      of(func(l []int, c impl.Cards, n int) [][]int { impl.CardsText(c); return nil }),
		"ParseCards": of(func(l []int, c impl.Cards, n int) [][]int {
			s, _ := impl.CardsText(c)
			r, _ := impl.ParseCards(s)
			return r.Lists
		}),
	}
}

func takesAnswers(name string) bool {
	switch name {
	case "NumbersTold", "NumbersWithLies", "LieTold", "FirstsSum":
		return true
	}
	return false
}

// takesNumber tells which functions take cards and a number.
func takesNumber(name string) bool {
	switch name {
	case "AnswersOf", "NumbersWithLies", "DropCard", "OtherCard":
		return true
	}
	return false
}

func TestNoCallOfCardsPanicsOrModifies(t *testing.T) {
	for i, answers := range anyAnswers() {
		for name, call := range cardFunctions(answers) {
			if i > 0 && !takesAnswers(name) {
				continue
			}
			for _, lists := range anyCards() {
				for _, numbers := range anyCardNumbers() {
					checkCardCall(t, name, call, lists, numbers)
				}
			}
		}
	}
}

func checkCardCall(t *testing.T, name string, call payCall, lists [][]int, numbers int) {
	t.Helper()
	if !takesNumber(name) {
		checkPayCall(t, name, call, []int{0}, lists, numbers, 0)
		return
	}
	for _, n := range []int{math.MinInt, -1, 0, 1, 2, 11, 12, 13, 127, 128, math.MaxInt} {
		checkPayCall(t, name, call, nil, lists, numbers, n)
	}
}

func TestAddCardTakesAllListsAndModifiesNone(t *testing.T) {
	add := cardFunctions("")["AddCard"]
	for _, lists := range anyCards() {
		for _, numbers := range anyCardNumbers() {
			for _, list := range append(listsThatAreNoCard(), nil, []int{0}, []int{0, 1}, []int{3}, firstNumbers(128)) {
				checkPayCall(t, "AddCard", add, list, lists, numbers, 0)
			}
		}
	}
}

func TestListsThatAreOneMemory(t *testing.T) {
	one := []int{0, 1, 3}
	c := impl.Cards{Numbers: 4, Lists: [][]int{one, one[:2], one}}
	for name, call := range cardFunctions("yyy") {
		for n := range 3 {
			fillApart(t, cardName(name, c), call(one, c.Lists, c.Numbers, n))
			wantList(t, cardName(name, c), one, true, []int{0, 1, 3})
		}
	}
}

func TestParseCardsTakesAllTexts(t *testing.T) {
	checkAllTexts(t, "ParseCards", "0123#.,-", 5, impl.ParseCards, impl.CardsText)
	checkAllTexts(t, "ParseCards", "12#.,-", 6, impl.ParseCards, impl.CardsText)
	checkAllTexts(t, "ParseCards", "01#+ \n\x00\xff", 5, impl.ParseCards, impl.CardsText)
}
