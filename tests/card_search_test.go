package tests

import (
	"slices"
	"strconv"
	"strings"
	"testing"

	"loop.example/g01305/impl"
)

// The searches here look for each number on each list, and compare answers sign by sign. They share nothing with the program.

func answersBySearch(c impl.Cards, x int) string {
	answers := ""
	for _, list := range c.Lists {
		if slices.Contains(list, x) {
			answers += "y"
		} else {
			answers += "n"
		}
	}
	return answers
}

// allAnswers returns the answers of each number.
func allAnswers(c impl.Cards) []string {
	all := []string{}
	for x := range c.Numbers {
		all = append(all, answersBySearch(c, x))
	}
	return all
}

func apartBySearch(a, b string) int {
	apart := 0
	for k := range len(a) {
		if a[k] != b[k] {
			apart++
		}
	}
	return apart
}

// withLiesBySearch returns the numbers, where all has the answers of each, that have answers with at most so many lies.
func withLiesBySearch(all []string, answers string, lies int) []int {
	numbers := []int{}
	for x := range all {
		if apartBySearch(all[x], answers) <= lies {
			numbers = append(numbers, x)
		}
	}
	return numbers
}

// leastApartBySearch compares all pairs of at least two numbers.
func leastApartBySearch(all []string) int {
	least := 1000
	for x := range all {
		for other := range x {
			least = min(least, apartBySearch(all[x], all[other]))
		}
	}
	return least
}

// tellAllBySearch reports whether all answers are different ones.
func tellAllBySearch(all []string) bool {
	different := map[string]bool{}
	for _, answers := range all {
		different[answers] = true
	}
	return len(different) == len(all)
}

// liesFoundBySearch tries all texts of so many signs: it returns the greatest number of lies
// for which none of them is, with so many or fewer, that of two numbers.
func liesFoundBySearch(all []string, cards int) int {
	for lies := 1; lies <= cards; lies++ {
		for _, answers := range allTexts(cards) {
			if len(withLiesBySearch(all, answers, lies)) > 1 {
				return lies - 1
			}
		}
	}
	return cards
}

// flipped returns the answers with a lie at a card.
func flipped(answers string, k int) string {
	other := "y"
	if answers[k] == 'y' {
		other = "n"
	}
	return answers[:k] + other + answers[k+1:]
}

// lieBySearch makes each lie, and none, in the answers of each number, and looks which of them come to some answers.
func lieBySearch(all []string, answers string) (number, card int, ok bool) {
	found := 0
	for x, own := range all {
		for k := -1; k < len(own); k++ {
			told := own
			if k >= 0 {
				told = flipped(own, k)
			}
			if told == answers {
				number, card = x, k
				found++
			}
		}
	}
	if found != 1 {
		return 0, 0, false
	}
	return number, card, true
}

func firstsBySearch(c impl.Cards, answers string) (int, bool) {
	sum := 0
	for k, list := range c.Lists {
		if answers[k] == 'y' {
			if len(list) == 0 {
				return 0, false
			}
			sum += list[0]
		}
	}
	return sum, true
}

func areSumsBySearch(c impl.Cards) bool {
	for x := range c.Numbers {
		if sum, ok := firstsBySearch(c, answersBySearch(c, x)); !ok || sum != x {
			return false
		}
	}
	return true
}

func cardsTextBySearch(c impl.Cards) string {
	text := strconv.Itoa(c.Numbers) + "#"
	for k, list := range c.Lists {
		if k > 0 {
			text += ","
		}
		if len(list) == 0 {
			text += "-"
		}
		for i, x := range list {
			if i > 0 {
				text += "."
			}
			text += strconv.Itoa(x)
		}
	}
	return text
}

// allTexts returns all texts of so many signs y and n.
func allTexts(signs int) []string {
	texts := []string{""}
	for range signs {
		longer := []string{}
		for _, text := range texts {
			longer = append(longer, text+"y", text+"n")
		}
		texts = longer
	}
	return texts
}

// someAnswers returns all answers for a few cards, and for more of them those of all numbers, without and with lies.
func someAnswers(all []string, cards int) []string {
	if cards <= 5 {
		return allTexts(cards)
	}
	texts := []string{strings.Repeat("y", cards), strings.Repeat("n", cards)}
	for x, answers := range all {
		lie := flipped(answers, x%cards)
		texts = append(texts, answers, lie, flipped(lie, (x+x/cards+1)%cards))
	}
	slices.Sort(texts)
	return slices.Compact(texts)
}

// someOf returns the numbers less than count whose bit is set.
func someOf(count, bits int) []int {
	list := []int{}
	for x := range count {
		if bits>>x&1 == 1 {
			list = append(list, x)
		}
	}
	return list
}

func firstNumbers(count int) []int {
	return allMarks(count - 1)
}

// cardLists returns all cards for the fewest numbers, and some for more of them, always the same ones.
func cardLists() []impl.Cards {
	all := []impl.Cards{{Numbers: 1}, {Numbers: 2}, {Numbers: 3}, {Numbers: 9}, {Numbers: 128}}
	for numbers := 1; numbers <= 3; numbers++ {
		for a := range 1 << numbers {
			all = append(all, impl.Cards{Numbers: numbers, Lists: [][]int{someOf(numbers, a)}})
			for b := range 1 << numbers {
				all = append(all, impl.Cards{Numbers: numbers, Lists: [][]int{someOf(numbers, a), someOf(numbers, b)}})
			}
		}
	}
	for _, numbers := range []int{1, 2, 4, 7, 16, 127, 128} {
		full := firstNumbers(numbers)
		all = append(all, impl.Cards{Numbers: numbers, Lists: slices.Repeat([][]int{full}, 12)},
			impl.Cards{Numbers: numbers, Lists: slices.Repeat([][]int{{}}, 12)},
			impl.Cards{Numbers: numbers, Lists: [][]int{full, {}, {numbers - 1}, {0}, full[:numbers/2], full[numbers/2:]}})
	}
	for _, numbers := range []int{2, 3, 5, 8, 100, 128} {
		all = append(all, impl.Cards{Numbers: numbers, Lists: binaryBySearch(numbers)}, impl.Cards{Numbers: numbers, Lists: checkedBySearch(numbers)},
			impl.Cards{Numbers: numbers, Lists: slices.Concat(binaryBySearch(numbers), [][]int{{}})})
	}
	return append(all, mixedCards()...)
}

// mixedCards returns cards with numbers that follow no rule, always the same ones.
func mixedCards() []impl.Cards {
	all := []impl.Cards{}
	z := 31415
	for k := range 60 {
		c := impl.Cards{Numbers: 2 + k*k%127}
		for range k % 13 {
			list := []int{}
			for x := range c.Numbers {
				z = (z*1103515245 + 12345) % (1 << 31)
				if z>>8%(2+k%3) == 0 {
					list = append(list, x)
				}
			}
			c.Lists = append(c.Lists, list)
		}
		all = append(all, c)
	}
	return all
}

// binaryBySearch puts each number on the cards of the powers of two that are taken off it, the greatest one first.
func binaryBySearch(numbers int) [][]int {
	powers := []int{}
	for power := 1; power < numbers; power *= 2 {
		powers = append(powers, power)
	}
	lists := make([][]int, len(powers))
	for x := range numbers {
		left := x
		for k, power := range slices.Backward(powers) {
			if left >= power {
				left -= power
				lists[k] = append(lists[k], x)
			}
		}
	}
	return lists
}

// checkedBySearch lays the cards of binaryBySearch in the places 3, 5, 6, 7, 9, 10 and 11, as many as there are,
// and counts for each number on how many of them it is in whose places a power of two is.
func checkedBySearch(numbers int) [][]int {
	places := map[int][]int{}
	last := 0
	for k, list := range binaryBySearch(numbers) {
		last = []int{3, 5, 6, 7, 9, 10, 11}[k]
		places[last] = list
	}
	checks := map[int][]int{1: {3, 5, 7, 9, 11}, 2: {3, 6, 7, 10, 11}, 4: {5, 6, 7}, 8: {9, 10, 11}}
	lists := [][]int{}
	for place := 1; place <= last; place++ {
		list := places[place]
		for x := range numbers {
			count := 0
			for _, other := range checks[place] {
				if slices.Contains(places[other], x) {
					count++
				}
			}
			if count%2 == 1 {
				list = append(list, x)
			}
		}
		lists = append(lists, list)
	}
	return lists
}

// cardName names a call by the first ones of its cards, and by what else it takes.
func cardName(name string, c impl.Cards, words ...string) string {
	first := impl.Cards{Numbers: c.Numbers}
	for _, list := range c.Lists[:min(len(c.Lists), 4)] {
		first.Lists = append(first.Lists, list[:min(len(list), 5)])
	}
	return name + " of " + cardsTextBySearch(first) + " .. " + strings.Join(words, " ")
}

func wantCards(t *testing.T, name string, got impl.Cards, ok bool, want impl.Cards) {
	t.Helper()
	if !ok || got.Numbers != want.Numbers || !slices.EqualFunc(got.Lists, want.Lists, slices.Equal) {
		t.Errorf("%s: got %v, %v; want %v, true", name, got, ok, want)
	}
}

func wantNoCards(t *testing.T, name string, got impl.Cards, ok bool) {
	t.Helper()
	if ok || got.Numbers != 0 || len(got.Lists) != 0 {
		t.Errorf("%s: got %v, %v; want none, false", name, got, ok)
	}
}
