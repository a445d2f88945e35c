package impl

import (
	"slices"
	"strconv"
	"strings"
)

const MaxPieces = 20
const MaxPiece = 10000

const maxListedPieces = 12
const maxListedGaps = 1000

// pieceSum is the length of some pieces together; the zero value is that of none.
type pieceSum struct {
	length int
}

// made tells how a length is made by pieces, or on both sides (chapter 7) a value.
// A sum has at least one way, so the zero value stands for a length that is no sum.
type made struct {
	ways   int
	fewest int
	start  int // the greatest index such that the pieces from it on suffice
}

// ArePieces reports whether a list of any numbers are pieces.
func ArePieces(list []int) bool {
	if len(list) > MaxPieces {
		return false
	}
	for _, piece := range list {
		if !isPiece(piece) {
			return false
		}
	}
	return slices.IsSorted(list)
}

// SumOfPieces returns the sum of all.
func SumOfPieces(list []int) (int, bool) {
	if !ArePieces(list) {
		return 0, false
	}
	return sumOfAll(list).length, true
}

// CanMake reports whether a number is a sum.
func CanMake(list []int, sum int) (bool, bool) {
	m, ok := madeOf(list, sum)
	return m != (made{}), ok
}

// SumsOf returns all sums, increasing, for at most 12 pieces.
func SumsOf(list []int) ([]int, bool) {
	if !ArePieces(list) || len(list) > maxListedPieces {
		return nil, false
	}
	return drainSums(collectSums(list)), true
}

// CountSums returns how many different sums there are.
func CountSums(list []int) (int, bool) {
	if !ArePieces(list) {
		return 0, false
	}
	return countMade(tableOf(list)), true
}

// WaysOf returns how many ways there are to make a sum.
func WaysOf(list []int, sum int) (int, bool) {
	m, ok := madeOf(list, sum)
	return m.ways, ok
}

// FirstWay returns the first one of them. It fails if there is none.
func FirstWay(list []int, sum int) ([]int, bool) {
	if !ArePieces(list) || !isAskedSum(sum) {
		return nil, false
	}
	table := tableOf(list)
	if !isSum(table, sum) {
		return nil, false
	}
	way := []int{}
	for i, piece := range list {
		// A length that is no sum has the start 0, which is never behind i.
		if piece <= sum && table[sum-piece].start > i {
			way = append(way, i)
			sum -= piece
		}
	}
	return way, true
}

// FewestFor returns the least number of pieces that make a sum. It fails if none do.
func FewestFor(list []int, sum int) (int, bool) {
	m, ok := madeOf(list, sum)
	return m.fewest, ok && m != (made{})
}

// RunOf returns the run.
func RunOf(list []int) (int, bool) {
	if !ArePieces(list) {
		return 0, false
	}
	return runOf(list), true
}

// GapsOf returns all gaps, increasing. It fails if there are more than 1000.
func GapsOf(list []int) ([]int, bool) {
	if !ArePieces(list) {
		return nil, false
	}
	return gapsIn(tableOf(list))
}

// PutPiece returns the pieces with one more, of a length in 1..MaxPiece. It fails if there are MaxPieces.
func PutPiece(list []int, n int) ([]int, bool) {
	if !ArePieces(list) || !isPiece(n) || len(list) == MaxPieces {
		return nil, false
	}
	at, _ := slices.BinarySearch(list, n)
	return slices.Concat(list[:at], []int{n}, list[at:]), true
}

// TakePiece returns the pieces without one of a length. It fails if there is none.
func TakePiece(list []int, n int) ([]int, bool) {
	if !ArePieces(list) {
		return nil, false
	}
	at, found := slices.BinarySearch(list, n)
	if !found {
		return nil, false
	}
	return withoutPiece(list, at), true
}

// NeedlessPieces returns the different lengths without one piece of which, one alone, the run is the same, increasing.
func NeedlessPieces(list []int) ([]int, bool) {
	if !ArePieces(list) {
		return nil, false
	}
	run := runOf(list)
	needless := []int{}
	for i, piece := range list {
		if i > 0 && list[i-1] == piece {
			continue
		}
		if runOf(withoutPiece(list, i)) == run {
			needless = append(needless, piece)
		}
	}
	return needless, true
}

// BestNext returns the length, 1..MaxPiece, of a piece that makes the run greatest:
// one more than the run, or, if this is more than MaxPiece, MaxPiece. It fails if there are MaxPieces.
func BestNext(list []int) (int, bool) {
	if !ArePieces(list) || len(list) == MaxPieces {
		return 0, false
	}
	return min(runOf(list)+1, MaxPiece), true
}

// HalfOf returns the first way to make half of the sum of all. It fails if there is none.
func HalfOf(list []int) ([]int, bool) {
	if !ArePieces(list) {
		return nil, false
	}
	all := sumOfAll(list)
	half := pieceSum{all.length / 2}
	if half.with(half.length) != all {
		return nil, false
	}
	return FirstWay(list, half.length)
}

// ClosestSum returns the sum that is nearest to a number, the lesser one of two.
func ClosestSum(list []int, sum int) (int, bool) {
	if !ArePieces(list) || !isAskedSum(sum) {
		return 0, false
	}
	table := tableOf(list)
	// 0 is a sum of no pieces, so the search downward ends there at the latest.
	for away := 0; ; away++ {
		if isSum(table, sum-away) {
			return sum - away, true
		}
		if isSum(table, sum+away) {
			return sum + away, true
		}
	}
}

// PiecesText returns the lengths with + between them, or 0 for none.
func PiecesText(list []int) (string, bool) {
	if !ArePieces(list) {
		return "", false
	}
	if len(list) == 0 {
		return "0", true
	}
	return numbersText(list, "+"), true
}

// ParsePieces returns the pieces with a PiecesText. It fails if there are none such.
func ParsePieces(s string) ([]int, bool) {
	if s == "0" {
		return nil, true
	}
	list, ok := parseNumbers(s, "+")
	if !ok || !ArePieces(list) {
		return nil, false
	}
	return list, true
}

func isPiece(n int) bool {
	return 1 <= n && n <= MaxPiece
}

func isAskedSum(n int) bool {
	return 0 <= n && n <= MaxPieces*MaxPiece
}

// with returns the sum of the same pieces and one more.
func (s pieceSum) with(piece int) pieceSum {
	return pieceSum{s.length + piece}
}

func sumOfAll(list []int) pieceSum {
	all := pieceSum{}
	for _, piece := range list {
		all = all.with(piece)
	}
	return all
}

func collectSums(list []int) map[pieceSum]bool {
	found := map[pieceSum]bool{{}: true}
	for _, piece := range list {
		// The longer sums are kept apart, as no key may come in while the map is ranged over.
		longer := []pieceSum{}
		for s := range found {
			longer = append(longer, s.with(piece))
		}
		for _, s := range longer {
			found[s] = true
		}
	}
	return found
}

// drainSums empties the map and returns the lengths of its sums, increasing.
func drainSums(found map[pieceSum]bool) []int {
	lengths := []int{}
	for s := range found {
		lengths = append(lengths, s.length)
		delete(found, s)
	}
	slices.Sort(lengths)
	return lengths
}

// tableOf tells for each length, up to the sum of all, how it is made.
// It begins with the last piece, as the first way is found by what the pieces behind an index can make.
func tableOf(list []int) []made {
	table := make([]made, sumOfAll(list).length+1)
	table[0] = made{ways: 1, start: len(list)}
	reached := 0
	for i := len(list) - 1; i >= 0; i-- {
		reached += list[i]
		// Downward, so that no length takes the piece i twice.
		for length := reached; length >= list[i]; length-- {
			table[length] = table[length].orFrom(i, table[length-list[i]])
		}
	}
	return table
}

// orFrom adds the ways that take the piece i, where rest tells how what is left is made by pieces behind it.
func (m made) orFrom(i int, rest made) made {
	if rest == (made{}) {
		return m
	}
	if m == (made{}) {
		return made{ways: rest.ways, fewest: rest.fewest + 1, start: i}
	}
	return made{ways: m.ways + rest.ways, fewest: min(m.fewest, rest.fewest+1), start: m.start}
}

func isSum(table []made, length int) bool {
	return length < len(table) && table[length] != (made{})
}

func countMade(table []made) int {
	count := 0
	for _, m := range table {
		if m != (made{}) {
			count++
		}
	}
	return count
}

// gapsIn returns the lengths that are not made, increasing. It fails if there are more than maxListedGaps.
func gapsIn(table []made) ([]int, bool) {
	gaps := []int{}
	for length, m := range table {
		if m != (made{}) {
			continue
		}
		if len(gaps) == maxListedGaps {
			return nil, false
		}
		gaps = append(gaps, length)
	}
	return gaps, true
}

// madeOf tells how a length is made. Its last result is false if these are no pieces or the length may not be asked for.
func madeOf(list []int, length int) (made, bool) {
	if !ArePieces(list) || !isAskedSum(length) {
		return made{}, false
	}
	table := tableOf(list)
	if !isSum(table, length) {
		return made{}, true
	}
	return table[length], true
}

// runOf needs no table: as pieces are in order, the first one that is too long
// for the run leaves a gap that no later one can fill.
func runOf(list []int) int {
	run := 0
	for _, piece := range list {
		if piece > run+1 {
			break
		}
		run += piece
	}
	return run
}

func withoutPiece(list []int, at int) []int {
	return slices.Concat(list[:at], list[at+1:])
}

// hasOnly reports whether all signs of a text are some of the given ones, of one byte each.
func hasOnly(text, signs string) bool {
	for _, sign := range text {
		if !strings.ContainsRune(signs, sign) {
			return false
		}
	}
	return true
}

func numbersText(list []int, between string) string {
	words := []string{}
	for _, n := range list {
		words = append(words, strconv.Itoa(n))
	}
	return strings.Join(words, between)
}

// parseNumbers returns the numbers, at least one, with a numbersText. It fails if there are none such.
func parseNumbers(s, between string) ([]int, bool) {
	list := []int{}
	for _, word := range strings.Split(s, between) {
		n, err := strconv.Atoi(word)
		if err != nil {
			return nil, false
		}
		list = append(list, n)
	}
	// Atoi takes more than a numbersText has, as signs and zeros in front.
	if numbersText(list, between) != s {
		return nil, false
	}
	return list, true
}
