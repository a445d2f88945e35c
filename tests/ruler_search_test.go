package tests

import (
	"math/bits"
	"slices"
)

// The searches here lay lengths at all places of a ruler, or try all sets of marks as bits. They share nothing with the program.

const longestRuler = 60

// laidPairs tells for each length at how many places it lies between two marks.
func laidPairs(marks []int) [longestRuler + 1]int {
	pairs := [longestRuler + 1]int{}
	for n := 1; n <= longestRuler; n++ {
		for from := 0; from+n <= longestRuler; from++ {
			if slices.Contains(marks, from) && slices.Contains(marks, from+n) {
				pairs[n]++
			}
		}
	}
	return pairs
}

// laidLengths returns the lengths that lie between two marks, increasing.
func laidLengths(marks []int) []int {
	lengths := []int{}
	for n, pairs := range laidPairs(marks) {
		if pairs > 0 {
			lengths = append(lengths, n)
		}
	}
	return lengths
}

// bitsOf returns the marks as bits, 1<<mark for each.
func bitsOf(marks []int) uint64 {
	all := uint64(0)
	for _, mark := range marks {
		all |= 1 << mark
	}
	return all
}

func marksOf(ruler uint64) []int {
	marks := []int{}
	for ; ruler != 0; ruler &= ruler - 1 {
		marks = append(marks, bits.TrailingZeros64(ruler))
	}
	return marks
}

// measuredBits returns the lengths that a ruler measures as bits: it is moved so that each mark comes to 0 once.
func measuredBits(ruler uint64) uint64 {
	measured := uint64(0)
	for left := ruler; left != 0; left &= left - 1 {
		measured |= ruler >> bits.TrailingZeros64(left)
	}
	return measured &^ 1
}

// eachRuler visits all rulers of a length as bits, in no order.
func eachRuler(length int, visit func(ruler uint64)) {
	for inside := range uint64(1) << (length - 1) {
		visit(1 | inside<<1 | 1<<length)
	}
}

func isCompleteBySearch(ruler uint64) bool {
	length := bits.Len64(ruler) - 1
	return measuredBits(ruler) == 1<<(length+1)-2
}

func isSparseBySearch(ruler uint64) bool {
	marks := bits.OnesCount64(ruler)
	return bits.OnesCount64(measuredBits(ruler)) == marks*(marks-1)/2
}

// completeBySearch returns all complete rulers of a length with the fewest marks, in lexicographic order.
func completeBySearch(length int) [][]int {
	rulers, fewest := [][]int{}, length+2
	eachRuler(length, func(ruler uint64) {
		marks := bits.OnesCount64(ruler)
		if marks > fewest || !isCompleteBySearch(ruler) {
			return
		}
		if marks < fewest {
			rulers, fewest = nil, marks
		}
		rulers = append(rulers, marksOf(ruler))
	})
	slices.SortFunc(rulers, slices.Compare)
	return rulers
}

// sparseBySearch returns all shortest sparse rulers with so many marks, in lexicographic order.
func sparseBySearch(marks int) [][]int {
	rulers := [][]int{}
	for length := 1; len(rulers) == 0; length++ {
		eachRuler(length, func(ruler uint64) {
			if bits.OnesCount64(ruler) == marks && isSparseBySearch(ruler) {
				rulers = append(rulers, marksOf(ruler))
			}
		})
	}
	slices.SortFunc(rulers, slices.Compare)
	return rulers
}

func needlessMarksBySearch(marks []int) []int {
	needless := []int{}
	whole := bitsOf(marks)
	for _, mark := range marks[1 : len(marks)-1] {
		if measuredBits(whole&^(1<<mark)) == measuredBits(whole) {
			needless = append(needless, mark)
		}
	}
	return needless
}

// allMarks returns 0, 1, .. up to a length.
func allMarks(length int) []int {
	marks := []int{}
	for mark := range length + 1 {
		marks = append(marks, mark)
	}
	return marks
}

// rulerLists returns all short rulers, and some longer ones, always the same ones.
func rulerLists() [][]int {
	rulers := [][]int{}
	for length := 1; length <= 8; length++ {
		eachRuler(length, func(ruler uint64) { rulers = append(rulers, marksOf(ruler)) })
	}
	for length := 9; length <= longestRuler; length++ {
		rulers = append(rulers, []int{0, length}, []int{0, 1, length}, []int{0, length - 1, length}, allMarks(length))
	}
	z := 2718
	for k := range 260 {
		length := 9 + k%52
		marks := []int{0, length}
		for range k / 13 {
			z = (z*1103515245 + 12345) % (1 << 31)
			marks = append(marks, z>>8%length)
		}
		slices.Sort(marks)
		rulers = append(rulers, slices.Compact(marks))
	}
	return rulers
}
