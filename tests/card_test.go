package tests

import (
	"math"
	"slices"
	"strconv"
	"strings"
	"testing"

	"loop.example/g01305/impl"
)

func TestCardExamples(t *testing.T) {
	c, ok := impl.BinaryCards(8)
	wantCards(t, "BinaryCards 8", c, ok, impl.Cards{Numbers: 8, Lists: [][]int{{1, 3, 5, 7}, {2, 3, 6, 7}, {4, 5, 6, 7}}})
	text, ok := impl.CardsText(c)
	wantText(t, "CardsText", text, ok, "8#1.3.5.7,2.3.6.7,4.5.6.7")
	text, ok = impl.AnswersOf(c, 5)
	wantText(t, "AnswersOf 5", text, ok, "yny")
	n, ok := impl.FirstsSum(c, "yny")
	wantNumber(t, "FirstsSum yny", n, ok, 5)
	n, ok = impl.LeastApart(c)
	wantNumber(t, "LeastApart", n, ok, 1)
	two, ok := impl.CheckedCards(2)
	wantCards(t, "CheckedCards 2", two, ok, impl.Cards{Numbers: 2, Lists: [][]int{{1}, {1}, {1}}})
	text, ok = impl.CardsText(two)
	wantText(t, "CardsText of CheckedCards 2", text, ok, "2#1,1,1")
	x, k, ok := impl.LieTold(two, "yyn")
	wantPair(t, "LieTold yyn", x, k, ok, 1, 2)
	four, ok := impl.CheckedCards(4)
	wantCards(t, "CheckedCards 4", four, ok, impl.Cards{Numbers: 4, Lists: [][]int{{1, 2}, {1, 3}, {1, 3}, {2, 3}, {2, 3}}})
	text, ok = impl.CardsText(four)
	wantText(t, "CardsText of CheckedCards 4", text, ok, "4#1.2,1.3,1.3,2.3,2.3")
}

func TestAnswersAreThoseOfTheSearch(t *testing.T) {
	for _, c := range cardLists() {
		if !impl.AreCards(c) {
			t.Error("AreCards does not take", c)
		}
		all := allAnswers(c)
		for x, want := range all {
			answers, ok := impl.AnswersOf(c, x)
			wantText(t, cardName("AnswersOf", c, strconv.Itoa(x)), answers, ok, want)
		}
		for _, answers := range someAnswers(all, len(c.Lists)) {
			numbers, ok := impl.NumbersTold(c, answers)
			wantList(t, cardName("NumbersTold", c, answers), numbers, ok, withLiesBySearch(all, answers, 0))
		}
		is, ok := impl.TellsAll(c)
		wantBool(t, cardName("TellsAll", c), is, ok, tellAllBySearch(all))
	}
}

func TestLiesAreThoseOfTheSearch(t *testing.T) {
	for _, c := range cardLists() {
		all := allAnswers(c)
		for _, answers := range someAnswers(all, len(c.Lists)) {
			for lies := 0; lies <= 12; lies++ {
				numbers, ok := impl.NumbersWithLies(c, answers, lies)
				wantList(t, cardName("NumbersWithLies", c, answers, strconv.Itoa(lies)), numbers, ok, withLiesBySearch(all, answers, lies))
			}
			x, k, ok := impl.LieTold(c, answers)
			wantX, wantK, is := lieBySearch(all, answers)
			if is {
				wantPair(t, cardName("LieTold", c, answers), x, k, ok, wantX, wantK)
			} else {
				wantNoPair(t, cardName("LieTold", c, answers), x, k, ok)
			}
		}
	}
}

func TestNumbersAreApartAsInTheSearch(t *testing.T) {
	for _, c := range cardLists() {
		all := allAnswers(c)
		apart, ok := impl.LeastApart(c)
		found, fine := impl.LiesFound(c)
		if c.Numbers == 1 {
			wantNoNumber(t, cardName("LeastApart", c), apart, ok)
			wantNoNumber(t, cardName("LiesFound", c), found, fine)
			continue
		}
		wantNumber(t, cardName("LeastApart", c), apart, ok, leastApartBySearch(all))
		if len(c.Lists) <= 7 {
			wantNumber(t, cardName("LiesFound", c), found, fine, liesFoundBySearch(all, len(c.Lists)))
		}
		wantNumber(t, cardName("LiesFound", c), found, fine, []int{0, 0, 0, 1, 1, 2, 2, 3, 3, 4, 4, 5, 5}[apart])
	}
}

func TestCardsThatAreDroppedAndTurned(t *testing.T) {
	for _, c := range cardLists() {
		needless := []int{}
		for k, list := range c.Lists {
			less := impl.Cards{Numbers: c.Numbers, Lists: slices.Delete(slices.Clone(c.Lists), k, k+1)}
			dropped, ok := impl.DropCard(c, k)
			wantCards(t, cardName("DropCard", c, strconv.Itoa(k)), dropped, ok, less)
			if is, ok := impl.TellsAll(less); is && ok {
				needless = append(needless, k)
			}
			turned := impl.Cards{Numbers: c.Numbers, Lists: slices.Clone(c.Lists)}
			turned.Lists[k] = slices.DeleteFunc(firstNumbers(c.Numbers), func(x int) bool { return slices.Contains(list, x) })
			other, ok := impl.OtherCard(c, k)
			wantCards(t, cardName("OtherCard", c, strconv.Itoa(k)), other, ok, turned)
			back, ok := impl.OtherCard(other, k)
			wantCards(t, cardName("OtherCard", other, strconv.Itoa(k)), back, ok, c)
		}
		list, ok := impl.NeedlessCards(c)
		wantList(t, cardName("NeedlessCards", c), list, ok, needless)
	}
}

func TestCardsThatAreAdded(t *testing.T) {
	for _, c := range cardLists() {
		for _, list := range [][]int{nil, {}, {0}, {c.Numbers - 1}, firstNumbers(c.Numbers), firstNumbers(c.Numbers)[c.Numbers/2:]} {
			more, ok := impl.AddCard(c, list)
			if len(c.Lists) == 12 {
				wantNoCards(t, cardName("AddCard", c), more, ok)
				continue
			}
			wantCards(t, cardName("AddCard", c), more, ok, impl.Cards{Numbers: c.Numbers, Lists: slices.Concat(c.Lists, [][]int{list})})
			back, ok := impl.DropCard(more, len(c.Lists))
			wantCards(t, cardName("DropCard", more), back, ok, c)
		}
	}
}

func TestFirstNumbersAreThoseOfTheSearch(t *testing.T) {
	for _, c := range cardLists() {
		for _, answers := range someAnswers(allAnswers(c), len(c.Lists)) {
			sum, ok := impl.FirstsSum(c, answers)
			if want, is := firstsBySearch(c, answers); is {
				wantNumber(t, cardName("FirstsSum", c, answers), sum, ok, want)
			} else {
				wantNoNumber(t, cardName("FirstsSum", c, answers), sum, ok)
			}
		}
		is, ok := impl.IsSumCards(c)
		wantBool(t, cardName("IsSumCards", c), is, ok, areSumsBySearch(c))
	}
}

func TestBinaryCardsTellEachNumberByTheSumOfFirstNumbers(t *testing.T) {
	for numbers := 1; numbers <= 128; numbers++ {
		c, ok := impl.BinaryCards(numbers)
		wantCards(t, named("BinaryCards", numbers), c, ok, impl.Cards{Numbers: numbers, Lists: binaryBySearch(numbers)})
		n, ok := impl.FewestCardsFor(numbers)
		wantNumber(t, named("FewestCardsFor", numbers), n, ok, len(c.Lists))
		for x := range numbers {
			answers, ok := impl.AnswersOf(c, x)
			if !ok {
				t.Error("AnswersOf BinaryCards", numbers, x)
			}
			sum, ok := impl.FirstsSum(c, answers)
			wantNumber(t, cardName("FirstsSum", c, answers), sum, ok, x)
			told, ok := impl.NumbersTold(c, answers)
			wantList(t, cardName("NumbersTold", c, answers), told, ok, []int{x})
		}
		is, ok := impl.IsSumCards(c)
		wantBool(t, named("IsSumCards of BinaryCards", numbers), is, ok, true)
		is, ok = impl.TellsAll(c)
		wantBool(t, named("TellsAll of BinaryCards", numbers), is, ok, true)
		list, ok := impl.NeedlessCards(c)
		wantList(t, named("NeedlessCards of BinaryCards", numbers), list, ok, nil)
	}
}

func TestBinaryCardsOfNamedNumbers(t *testing.T) {
	for numbers, text := range map[int]string{
		1: "1#", 2: "2#1", 3: "3#1,2", 4: "4#1.3,2.3", 5: "5#1.3,2.3,4", 7: "7#1.3.5,2.3.6,4.5.6", 8: "8#1.3.5.7,2.3.6.7,4.5.6.7", 9: "9#1.3.5.7,2.3.6.7,4.5.6.7,8",
	} {
		c, ok := impl.BinaryCards(numbers)
		if !ok {
			t.Error("BinaryCards", numbers)
		}
		got, ok := impl.CardsText(c)
		wantText(t, named("CardsText of BinaryCards", numbers), got, ok, text)
	}
	for numbers, count := range map[int]int{15: 4, 16: 4, 17: 5, 31: 5, 32: 5, 33: 6, 63: 6, 64: 6, 65: 7, 127: 7, 128: 7} {
		c, ok := impl.BinaryCards(numbers)
		wantNumber(t, named("cards of BinaryCards", numbers), len(c.Lists), ok, count)
		wantList(t, named("last one of BinaryCards", numbers), c.Lists[count-1], ok, firstNumbers(numbers)[1<<(count-1):])
	}
}

func TestFewestCardsForAreEnough(t *testing.T) {
	for _, numbers := range []int{1, 2, 3, 4, 5, 8, 9, 16, 17, 32, 33, 64, 65, 127, 128} {
		fewest, ok := impl.FewestCardsFor(numbers)
		if texts := len(allTexts(fewest)); !ok || texts < numbers {
			t.Errorf("FewestCardsFor %d: %d cards have only %d answers", numbers, fewest, texts)
		}
		if fewest > 0 && len(allTexts(fewest-1)) >= numbers {
			t.Errorf("FewestCardsFor %d: %d cards are enough", numbers, fewest-1)
		}
	}
	for numbers, want := range map[int]int{1: 0, 2: 1, 3: 2, 4: 2, 5: 3, 64: 6, 65: 7, 128: 7} {
		fewest, ok := impl.FewestCardsFor(numbers)
		wantNumber(t, named("FewestCardsFor", numbers), fewest, ok, want)
	}
}

func TestCheckedCardsFindEachSingleLie(t *testing.T) {
	for numbers := 2; numbers <= 128; numbers++ {
		c, ok := impl.CheckedCards(numbers)
		wantCards(t, named("CheckedCards", numbers), c, ok, impl.Cards{Numbers: numbers, Lists: checkedBySearch(numbers)})
		for x := range numbers {
			answers, _ := impl.AnswersOf(c, x)
			number, k, ok := impl.LieTold(c, answers)
			wantPair(t, cardName("LieTold", c, answers), number, k, ok, x, -1)
			for lie := range c.Lists {
				number, k, ok := impl.LieTold(c, flipped(answers, lie))
				wantPair(t, cardName("LieTold", c, flipped(answers, lie)), number, k, ok, x, lie)
			}
		}
		if apart, ok := impl.LeastApart(c); !ok || apart < 3 {
			t.Error("LeastApart of CheckedCards", numbers, apart)
		}
		if lies, ok := impl.LiesFound(c); !ok || lies < 1 {
			t.Error("LiesFound of CheckedCards", numbers, lies)
		}
	}
}

func TestCheckedCardsOfNamedNumbers(t *testing.T) {
	for numbers, text := range map[int]string{
		2: "2#1,1,1", 3: "3#1.2,1,1,2,2", 4: "4#1.2,1.3,1.3,2.3,2.3", 5: "5#1.2,1.3.4,1.3,2.3.4,2.3,4", 8: "8#1.2.5.6,1.3.4.6,1.3.5.7,2.3.4.5,2.3.6.7,4.5.6.7",
	} {
		c, ok := impl.CheckedCards(numbers)
		if !ok {
			t.Error("CheckedCards", numbers)
		}
		got, ok := impl.CardsText(c)
		wantText(t, named("CardsText of CheckedCards", numbers), got, ok, text)
	}
	for numbers, count := range map[int]int{9: 7, 16: 7, 17: 9, 32: 9, 33: 10, 64: 10, 65: 11, 128: 11} {
		c, ok := impl.CheckedCards(numbers)
		wantNumber(t, named("cards of CheckedCards", numbers), len(c.Lists), ok, count)
		wantList(t, named("last one of CheckedCards", numbers), c.Lists[count-1], ok, binaryBySearch(numbers)[len(binaryBySearch(numbers))-1])
	}
}

func TestOneNumberAndNoCards(t *testing.T) {
	one := impl.Cards{Numbers: 1}
	answers, ok := impl.AnswersOf(one, 0)
	wantText(t, "AnswersOf 0 of 1#", answers, ok, "")
	list, ok := impl.NumbersTold(one, "")
	wantList(t, "NumbersTold of 1#", list, ok, []int{0})
	x, k, ok := impl.LieTold(one, "")
	wantPair(t, "LieTold of 1#", x, k, ok, 0, -1)
	is, ok := impl.TellsAll(one)
	wantBool(t, "TellsAll of 1#", is, ok, true)
	is, ok = impl.IsSumCards(one)
	wantBool(t, "IsSumCards of 1#", is, ok, true)
	n, ok := impl.FirstsSum(one, "")
	wantNumber(t, "FirstsSum of 1#", n, ok, 0)
	list, ok = impl.NeedlessCards(one)
	wantList(t, "NeedlessCards of 1#", list, ok, nil)
	n, ok = impl.LeastApart(one)
	wantNoNumber(t, "LeastApart of 1#", n, ok)
	n, ok = impl.LiesFound(impl.Cards{Numbers: 1, Lists: [][]int{{0}, {}, {0}}})
	wantNoNumber(t, "LiesFound of 1#0,-,0", n, ok)
	none := impl.Cards{Numbers: 128}
	list, ok = impl.NumbersTold(none, "")
	wantList(t, "NumbersTold of 128#", list, ok, firstNumbers(128))
	n, ok = impl.LeastApart(none)
	wantNumber(t, "LeastApart of 128#", n, ok, 0)
	is, ok = impl.TellsAll(none)
	wantBool(t, "TellsAll of 128#", is, ok, false)
	x, k, ok = impl.LieTold(none, "")
	wantNoPair(t, "LieTold of 128#", x, k, ok)
}

func TestAnswersThatNoNumberHasAndThatManyHave(t *testing.T) {
	c := impl.Cards{Numbers: 6, Lists: [][]int{{1, 2, 3}, {1, 2, 3, 5}, {}}}
	for answers, want := range map[string][]int{"nnn": {0, 4}, "yyn": {1, 2, 3}, "nyn": {5}, "ynn": nil, "yyy": nil, "nny": nil} {
		list, ok := impl.NumbersTold(c, answers)
		wantList(t, cardName("NumbersTold", c, answers), list, ok, want)
	}
	for answers, want := range map[string][]int{"nyy": {5}, "yyy": {1, 2, 3}, "yny": nil} {
		list, ok := impl.NumbersWithLies(c, answers, 1)
		wantList(t, cardName("NumbersWithLies", c, answers), list, ok, want)
	}
	answers, ok := impl.AnswersOf(c, 0)
	wantText(t, "AnswersOf 0", answers, ok, "nnn")
	answers, ok = impl.AnswersOf(c, 5)
	wantText(t, "AnswersOf the last one", answers, ok, "nyn")
	list, ok := impl.NumbersWithLies(c, "yyy", 3)
	wantList(t, "NumbersWithLies, as many as cards", list, ok, firstNumbers(6))
	list, ok = impl.NumbersWithLies(c, "yyy", 12)
	wantList(t, "NumbersWithLies, as many as MaxCards", list, ok, firstNumbers(6))
	list, ok = impl.NumbersWithLies(c, "yyy", 0)
	wantList(t, "NumbersWithLies without lies", list, ok, nil)
}

func TestLiesFoundByHowFarNumbersAreApart(t *testing.T) {
	for _, c := range []struct {
		text        string
		apart, lies int
	}{
		{"2#", 0, 0}, {"2#0.1,0.1", 0, 0}, {"3#0,0,0,0,0", 0, 0}, {"2#1", 1, 0}, {"8#1.3.5.7,2.3.6.7,4.5.6.7", 1, 0}, {"2#1,0", 2, 0}, {"4#1.3,2.3,1.2", 2, 0},
		{"2#1,1,1", 3, 1}, {"2#1,1,0,1", 4, 1}, {"2#1,1,0,1,-,0", 5, 2}, {"2#1,1,1,1,1,1,1,1,1,1,1", 11, 5}, {"2#0,1,0,1,0,1,0,1,0,1,0,1", 12, 5},
	} {
		cards, ok := impl.ParseCards(c.text)
		if !ok {
			t.Error("ParseCards", c.text)
		}
		n, ok := impl.LeastApart(cards)
		wantNumber(t, "LeastApart "+c.text, n, ok, c.apart)
		n, ok = impl.LiesFound(cards)
		wantNumber(t, "LiesFound "+c.text, n, ok, c.lies)
		is, ok := impl.TellsAll(cards)
		wantBool(t, "TellsAll "+c.text, is, ok, c.apart > 0)
	}
}

func TestLiesThatAreToldOrNot(t *testing.T) {
	// The answers of 1 and 2 differ at one card, so that they have answers with a lie in common.
	c := impl.Cards{Numbers: 3, Lists: [][]int{{1}, {1, 2}, {1, 2}, {1, 2}}}
	for answers, want := range map[string][]int{"nnnn": {0, -1}, "ynnn": {0, 0}, "nnny": {0, 3}, "nnyy": {2, 1}, "nyyn": {2, 3}, "yyny": {1, 2}, "ynyy": {1, 1}} {
		x, k, ok := impl.LieTold(c, answers)
		wantPair(t, cardName("LieTold", c, answers), x, k, ok, want[0], want[1])
	}
	for _, answers := range []string{"nyyy", "yyyy", "ynny", "yynn"} {
		x, k, ok := impl.LieTold(c, answers)
		wantNoPair(t, cardName("LieTold", c, answers), x, k, ok)
	}
	one := impl.Cards{Numbers: 1, Lists: [][]int{{}, {0}, {0}, {}}}
	for answers, lie := range map[string]int{"nyyn": -1, "yyyn": 0, "nnyn": 1, "nynn": 2, "nyyy": 3} {
		x, k, ok := impl.LieTold(one, answers)
		wantPair(t, cardName("LieTold", one, answers), x, k, ok, 0, lie)
	}
	for _, answers := range []string{"nnnn", "yyyy", "ynnn", "nnny"} {
		x, k, ok := impl.LieTold(one, answers)
		wantNoPair(t, cardName("LieTold", one, answers), x, k, ok)
	}
}

func TestCardsAtTheirEnds(t *testing.T) {
	c := impl.Cards{Numbers: 4, Lists: [][]int{{1, 3}, {}, {0, 1, 2, 3}, {2, 3}}}
	for k, text := range map[int]string{0: "4#-,0.1.2.3,2.3", 1: "4#1.3,0.1.2.3,2.3", 3: "4#1.3,-,0.1.2.3"} {
		less, _ := impl.DropCard(c, k)
		got, ok := impl.CardsText(less)
		wantText(t, named("DropCard", k), got, ok, text)
	}
	only, ok := impl.DropCard(impl.Cards{Numbers: 4, Lists: [][]int{{1, 3}}}, 0)
	wantCards(t, "DropCard of the only one", only, ok, impl.Cards{Numbers: 4})
	for k, text := range map[int]string{0: "4#0.2,-,0.1.2.3,2.3", 1: "4#1.3,0.1.2.3,0.1.2.3,2.3", 2: "4#1.3,-,-,2.3", 3: "4#1.3,-,0.1.2.3,0.1"} {
		other, _ := impl.OtherCard(c, k)
		got, ok := impl.CardsText(other)
		wantText(t, named("OtherCard", k), got, ok, text)
	}
	eleven := impl.Cards{Numbers: 3, Lists: slices.Repeat([][]int{{1}}, 11)}
	twelve, ok := impl.AddCard(eleven, nil)
	wantCards(t, "AddCard behind MaxCards minus 1", twelve, ok, impl.Cards{Numbers: 3, Lists: slices.Concat(eleven.Lists, [][]int{{}})})
	for _, list := range [][]int{nil, {1}, {0, 1, 2}, {3}} {
		more, ok := impl.AddCard(twelve, list)
		wantNoCards(t, "AddCard behind MaxCards", more, ok)
	}
	list, ok := impl.NeedlessCards(c)
	wantList(t, "NeedlessCards", list, ok, []int{1, 2})
	list, ok = impl.NeedlessCards(impl.Cards{Numbers: 6, Lists: c.Lists})
	wantList(t, "NeedlessCards of cards that do not tell all", list, ok, nil)
	list, ok = impl.NeedlessCards(impl.Cards{Numbers: 2, Lists: [][]int{{1}, {1}}})
	wantList(t, "NeedlessCards of the same card twice", list, ok, []int{0, 1})
	list, ok = impl.NeedlessCards(impl.Cards{Numbers: 1, Lists: [][]int{{}, {0}}})
	wantList(t, "NeedlessCards of one number", list, ok, []int{0, 1})
}

func TestFirstNumbersOfNamedCards(t *testing.T) {
	c := impl.Cards{Numbers: 8, Lists: [][]int{{3, 5}, {}, {0, 7}, {7}}}
	for answers, want := range map[string]int{"nnnn": 0, "ynnn": 3, "nnyn": 0, "ynyy": 10} {
		sum, ok := impl.FirstsSum(c, answers)
		wantNumber(t, cardName("FirstsSum", c, answers), sum, ok, want)
	}
	for _, answers := range []string{"nynn", "yynn", "yyyy"} {
		sum, ok := impl.FirstsSum(c, answers)
		wantNoNumber(t, cardName("FirstsSum", c, answers), sum, ok)
	}
	for text, want := range map[string]bool{
		"4#1.3,2.3": true, "4#2.3,1.3": true, "4#2.3,-,1.3": true, "4#-,1.3,2.3,-": true, "4#0.1.2.3,1.3,2.3": true, "4#0,1.3,2.3": true, "3#1.2,1.2": false,
		"4#1.3,2.3,3": false, "4#1.3,2": false, "4#1,2,3": true, "4#1.2.3,2.3,3": false, "4#1.2.3,2,3": false, "3#1,2": true, "2#": false, "1#": true, "1#0": true, "2#0.1,1": true, "2#0,1,-": true,
		"8#4.5.6.7,1.3.5.7,2.3.6.7": true, "4#1.2,1.3,1.3,2.3,2.3": false, "3#1.2,2": false, "4#1.2.3,1.2.3,1.2.3": false, "4#1.2.3,1.3,1.2.3": false,
	} {
		c, _ := impl.ParseCards(text)
		is, ok := impl.IsSumCards(c)
		wantBool(t, "IsSumCards "+text, is, ok, want)
	}
}

func TestCardsTexts(t *testing.T) {
	longest := impl.Cards{Numbers: 128, Lists: slices.Repeat([][]int{firstNumbers(128)}, 12)}
	samples := append(cardLists(), impl.Cards{Numbers: 1}, impl.Cards{Numbers: 1, Lists: [][]int{{}}}, impl.Cards{Numbers: 1, Lists: [][]int{{0}}}, longest)
	for _, c := range samples {
		text, ok := impl.CardsText(c)
		wantText(t, cardName("CardsText", c), text, ok, cardsTextBySearch(c))
		back, ok := impl.ParseCards(text)
		wantCards(t, "ParseCards "+text, back, ok, c)
	}
	for text, c := range map[string]impl.Cards{
		"1#": {Numbers: 1}, "1#-": {Numbers: 1, Lists: [][]int{{}}}, "1#0": {Numbers: 1, Lists: [][]int{{0}}}, "128#": {Numbers: 128}, "128#127": {Numbers: 128, Lists: [][]int{{127}}},
		"3#-,-": {Numbers: 3, Lists: [][]int{{}, {}}}, "3#0.2,-,1,0.1.2": {Numbers: 3, Lists: [][]int{{0, 2}, {}, {1}, {0, 1, 2}}}, "11#9.10": {Numbers: 11, Lists: [][]int{{9, 10}}},
	} {
		got, ok := impl.CardsText(c)
		wantText(t, "CardsText", got, ok, text)
		back, ok := impl.ParseCards(text)
		wantCards(t, "ParseCards "+text, back, ok, c)
	}
}

func TestTextsThatAreNoCards(t *testing.T) {
	texts := []string{"", "#", "##", "1", "8", "#1", "#-", "1##", "#1#", "1#0#", "1#0#0", "1#0,#", "2#0#1", "1,0", "1.0", "1-", "-", "0", ",", ".",
		"0#", "0#-", "-1#", "-8#1", "129#", "129#1", "1000#", "0#0", "2#,", "2#1,", "2#,1", "2#1,,0", "2#-,", "2#,-", "2#.", "2#0.", "2#.0", "2#0..1", "2#0.,1", "2#0,.1", "2#--", "2#-0", "2#0-", "2#-.0", "2#0.-", "2#1.-", "2#-.-", "2#-1", "2#-1.0",
		"2#2", "2#0.2", "2#1.0", "2#0.0", "2#1.1", "2#0.1.1", "3#2.1", "3#0.2.1", "128#128", "128#0.128", "1#1", "13#" + strings.Repeat("0,", 12) + "0", "2#" + strings.Repeat("-,", 12) + "-",
		"08#1", "008#", "+8#1", "8#+1", "8#01", "8#1.02", "8#00", "8#-0", "+1#", " 1#", "1# ", "1 #", "1# 0", "1#0 ", "2#0 .1", "2#0. 1", "2#0, 1", "2#0 ,1", "2#- ", "1#\n", "1#0\n", "\t1#", "1#\x00", "\xff#", "1#\xff", "1\xff#", "\ufeff1#",
		"8#1|2", "8#1;2", "8#1/2", "8#1:2", "8:1", "8#a", "a#1", "8#1_0", "8_0#", "8#0x1", "0x8#", "8#1e0", "8#1.5e0", "8#y", "8#n", "8#\u0661", "\u0661#", "8\uff031", "8#\u2212", "8#\u2013", "2#0.1.", "2#0.1,",
		"9223372036854775807#", "9223372036854775808#", "18446744073709551617#", "-9223372036854775809#", "8#9223372036854775807", "8#9223372036854775808", "8#18446744073709551617", "8#1.18446744073709551618", "8#-9223372036854775809",
		strings.Repeat("9", 1000) + "#", strings.Repeat("0", 1000) + "1#", "8#" + strings.Repeat("9", 1000), "8#" + strings.Repeat("0", 1000), "8#" + strings.Repeat("-,", 100000) + "-", "8#0" + strings.Repeat(".1", 100000), "8#" + strings.Repeat(",", 100000), strings.Repeat("#", 100000)}
	for _, s := range texts {
		c, ok := impl.ParseCards(s)
		wantNoCards(t, "ParseCards "+s[:min(len(s), 50)], c, ok)
	}
}

func TestCardsThatAreNone(t *testing.T) {
	none := []impl.Cards{{}, {Numbers: 8, Lists: slices.Repeat([][]int{{}}, 13)}, {Numbers: 1, Lists: slices.Repeat([][]int{{0}}, 13)}, {Numbers: 2, Lists: slices.Repeat([][]int{{1}}, 5000)}}
	for _, numbers := range []int{0, -1, -8, -128, 129, 130, 256, 1 << 32, 1<<32 + 1, math.MinInt, math.MinInt + 1, math.MaxInt} {
		none = append(none, impl.Cards{Numbers: numbers}, impl.Cards{Numbers: numbers, Lists: [][]int{{}}}, impl.Cards{Numbers: numbers, Lists: [][]int{{0, 1}, {1}}})
	}
	for _, list := range listsThatAreNoCard() {
		none = append(none, impl.Cards{Numbers: 8, Lists: [][]int{list}}, impl.Cards{Numbers: 8, Lists: [][]int{{1, 2}, list}}, impl.Cards{Numbers: 8, Lists: [][]int{list, {}}})
	}
	none = append(none, impl.Cards{Numbers: 1, Lists: [][]int{{1}}}, impl.Cards{Numbers: 2, Lists: [][]int{{0, 1}, {0, 2}}}, impl.Cards{Numbers: 128, Lists: [][]int{{128}}}, impl.Cards{Numbers: 128, Lists: [][]int{firstNumbers(129)}})
	for _, c := range none {
		wantNoCardsTaken(t, c)
		for _, answers := range []string{"", "y", "n", "yn", strings.Repeat("y", len(c.Lists)), strings.Repeat("n", len(c.Lists))} {
			wantNoAnswersTaken(t, c, answers)
		}
		for _, k := range []int{-1, 0, 1, 7} {
			wantNoCardTaken(t, c, k)
			answers, ok := impl.AnswersOf(c, k)
			wantNoText(t, cardName("AnswersOf", c), answers, ok)
		}
	}
}

// listsThatAreNoCard returns lists that are no card for 8 numbers.
func listsThatAreNoCard() [][]int {
	return [][]int{{8}, {0, 8}, {7, 8}, {9}, {128}, {-1}, {-1, 0}, {-8, 1}, {1, 0}, {0, 0}, {7, 7}, {1, 2, 2}, {1, 3, 2}, {0, 1, 2, 3, 4, 5, 6, 7, 7}, firstNumbers(9), {0, 256}, {1 << 32},
		{math.MinInt}, {math.MaxInt}, {0, math.MaxInt}, {0, math.MinInt}, {math.MinInt, 0}, {math.MaxInt, math.MinInt}, repeated(0, 2), repeated(3, 5000)}
}

// wantNoCardsTaken checks that no function takes c for cards.
func wantNoCardsTaken(t *testing.T, c impl.Cards) {
	t.Helper()
	if impl.AreCards(c) {
		t.Error(cardName("AreCards", c))
	}
	is, ok := impl.TellsAll(c)
	wantNoBool(t, cardName("TellsAll", c), is, ok)
	is, ok = impl.IsSumCards(c)
	wantNoBool(t, cardName("IsSumCards", c), is, ok)
	n, ok := impl.LeastApart(c)
	wantNoNumber(t, cardName("LeastApart", c), n, ok)
	n, ok = impl.LiesFound(c)
	wantNoNumber(t, cardName("LiesFound", c), n, ok)
	list, ok := impl.NeedlessCards(c)
	wantNoList(t, cardName("NeedlessCards", c), list, ok)
	text, ok := impl.CardsText(c)
	wantNoText(t, cardName("CardsText", c), text, ok)
	for _, list := range [][]int{nil, {0}, {1, 2}} {
		more, ok := impl.AddCard(c, list)
		wantNoCards(t, cardName("AddCard", c), more, ok)
	}
}

// wantNoAnswersTaken checks that no function takes answers of c.
func wantNoAnswersTaken(t *testing.T, c impl.Cards, answers string) {
	t.Helper()
	list, ok := impl.NumbersTold(c, answers)
	wantNoList(t, cardName("NumbersTold", c, answers), list, ok)
	for _, lies := range []int{0, 1, 12} {
		list, ok = impl.NumbersWithLies(c, answers, lies)
		wantNoList(t, cardName("NumbersWithLies", c, answers), list, ok)
	}
	x, k, ok := impl.LieTold(c, answers)
	wantNoPair(t, cardName("LieTold", c, answers), x, k, ok)
	n, ok := impl.FirstsSum(c, answers)
	wantNoNumber(t, cardName("FirstsSum", c, answers), n, ok)
}

// wantNoCardTaken checks that no function takes k for a card of c.
func wantNoCardTaken(t *testing.T, c impl.Cards, k int) {
	t.Helper()
	less, ok := impl.DropCard(c, k)
	wantNoCards(t, cardName("DropCard", c, strconv.Itoa(k)), less, ok)
	other, ok := impl.OtherCard(c, k)
	wantNoCards(t, cardName("OtherCard", c, strconv.Itoa(k)), other, ok)
}

func TestAnswersThatAreNone(t *testing.T) {
	for _, cards := range []int{0, 1, 2, 3, 5, 12} {
		c := impl.Cards{Numbers: 8, Lists: slices.Repeat([][]int{{1, 3, 5, 7}}, cards)}
		wrong := []string{strings.Repeat("y", cards+1), strings.Repeat("n", cards+1), strings.Repeat("n", 13), strings.Repeat("y", 100000)}
		if cards > 0 {
			wrong = append(wrong, "", strings.Repeat("y", cards-1), strings.Repeat("n", cards-1))
		}
		// Each sign stands for one answer, and for as many as it has bytes. Some would be y or n if they were cut to a byte.
		for _, sign := range []string{"Y", "N", "j", "x", "+", "-", "0", "1", " ", "\n", "\x00", "\xff", "\x80", "\u00ff", "\u00f1", "\u0179", "\u016e", "\uff59", "\ufffd", "\U0001f600"} {
			wrong = append(wrong, strings.Repeat("y", max(cards-1, 0))+sign, sign+strings.Repeat("n", max(cards-1, 0)))
			if cards >= len(sign) {
				wrong = append(wrong, sign+strings.Repeat("y", cards-len(sign)), strings.Repeat("n", cards-len(sign))+sign)
			}
		}
		for _, answers := range wrong {
			wantNoAnswersTaken(t, c, answers)
		}
	}
}

func TestNumbersLiesAndIndicesThatAreNone(t *testing.T) {
	for _, c := range []impl.Cards{{Numbers: 1}, {Numbers: 8}, {Numbers: 1, Lists: [][]int{{0}}}, {Numbers: 8, Lists: [][]int{{1, 3, 5, 7}, {2, 3, 6, 7}, {4, 5, 6, 7}}},
		{Numbers: 128, Lists: slices.Repeat([][]int{{127}}, 12)}} {
		for _, x := range []int{-1, -2, -128, c.Numbers, c.Numbers + 1, 128, 129, 256, 1 << 32, math.MinInt, math.MaxInt} {
			answers, ok := impl.AnswersOf(c, x)
			wantNoText(t, cardName("AnswersOf", c, strconv.Itoa(x)), answers, ok)
		}
		for _, lies := range []int{-1, -2, -12, 13, 14, 128, 1 << 32, math.MinInt, math.MaxInt} {
			list, ok := impl.NumbersWithLies(c, strings.Repeat("y", len(c.Lists)), lies)
			wantNoList(t, cardName("NumbersWithLies", c, strconv.Itoa(lies)), list, ok)
		}
		for _, k := range []int{-1, -2, -12, len(c.Lists), len(c.Lists) + 1, 12, 13, 1 << 32, math.MinInt, math.MaxInt} {
			wantNoCardTaken(t, c, k)
		}
	}
	for _, list := range listsThatAreNoCard() {
		for _, c := range []impl.Cards{{Numbers: 8}, {Numbers: 8, Lists: [][]int{{}, {7}}}, {Numbers: 8, Lists: slices.Repeat([][]int{{1}}, 12)}} {
			more, ok := impl.AddCard(c, list)
			wantNoCards(t, cardName("AddCard", c), more, ok)
		}
	}
}

func TestNumbersForWhichThereAreNoCards(t *testing.T) {
	for _, numbers := range []int{0, -1, -2, -128, 129, 130, 255, 256, 1 << 32, 1<<32 + 1, math.MinInt, math.MinInt + 1, math.MaxInt} {
		c, ok := impl.BinaryCards(numbers)
		wantNoCards(t, named("BinaryCards", numbers), c, ok)
		c, ok = impl.CheckedCards(numbers)
		wantNoCards(t, named("CheckedCards", numbers), c, ok)
		n, ok := impl.FewestCardsFor(numbers)
		wantNoNumber(t, named("FewestCardsFor", numbers), n, ok)
	}
	c, ok := impl.CheckedCards(1)
	wantNoCards(t, "CheckedCards 1", c, ok)
}
