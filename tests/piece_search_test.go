package tests

import (
	"slices"
	"strconv"
	"testing"
)

// The searches here try all choices of pieces. They share nothing with the program.

func totalOf(list []int) int {
	total := 0
	for _, n := range list {
		total += n
	}
	return total
}

// searchWays returns all ways to make each sum, in lexicographic order.
func searchWays(list []int) map[int][][]int {
	ways := map[int][][]int{}
	for choice := range 1 << len(list) {
		way, total := []int{}, 0
		for i, n := range list {
			if choice>>i&1 == 1 {
				way = append(way, i)
				total += n
			}
		}
		ways[total] = append(ways[total], way)
	}
	for _, w := range ways {
		slices.SortFunc(w, slices.Compare)
	}
	return ways
}

func searchRun(list []int) int {
	ways := searchWays(list)
	run := 0
	for ways[run+1] != nil {
		run++
	}
	return run
}

func searchFewest(ways [][]int) int {
	fewest := len(ways[0])
	for _, w := range ways {
		fewest = min(fewest, len(w))
	}
	return fewest
}

func searchClosest(ways map[int][][]int, n int) int {
	best := 0
	for sum := range ways {
		near, far := max(sum-n, n-sum), max(best-n, n-best)
		if near < far || near == far && sum < best {
			best = sum
		}
	}
	return best
}

func searchNeedless(list []int) []int {
	run := searchRun(list)
	needless := []int{}
	for i, n := range list {
		if !slices.Contains(needless, n) && searchRun(slices.Delete(slices.Clone(list), i, i+1)) == run {
			needless = append(needless, n)
		}
	}
	return needless
}

// pieceLists returns short lists of pieces of many kinds, always the same ones.
func pieceLists() [][]int {
	lists := [][]int{{}, {1}, {2}, {longestPiece}}
	z := 12345
	for k := range 300 {
		list := []int{}
		for range k % 9 {
			z = (z*1103515245 + 12345) % (1 << 31)
			list = append(list, 1+z>>8%(2+k%23))
		}
		slices.Sort(list)
		lists = append(lists, list)
	}
	return lists
}

const longestPiece = 10000

func wantNumber(t *testing.T, name string, got int, ok bool, want int) {
	t.Helper()
	if !ok || got != want {
		t.Errorf("%s: got %d, %v; want %d, true", name, got, ok, want)
	}
}

func wantList(t *testing.T, name string, got []int, ok bool, want []int) {
	t.Helper()
	if !ok || !slices.Equal(got, want) {
		t.Errorf("%s: got %v, %v; want %v, true", name, got, ok, want)
	}
}

func wantBool(t *testing.T, name string, got, ok, want bool) {
	t.Helper()
	if !ok || got != want {
		t.Errorf("%s: got %v, %v; want %v, true", name, got, ok, want)
	}
}

func wantText(t *testing.T, name string, got string, ok bool, want string) {
	t.Helper()
	if !ok || got != want {
		t.Errorf("%s: got %q, %v; want %q, true", name, got, ok, want)
	}
}

func wantNoNumber(t *testing.T, name string, got int, ok bool) {
	t.Helper()
	if ok || got != 0 {
		t.Errorf("%s: got %d, %v; want 0, false", name, got, ok)
	}
}

func wantNoList(t *testing.T, name string, got []int, ok bool) {
	t.Helper()
	if ok || len(got) != 0 {
		t.Errorf("%s: got %v, %v; want none, false", name, got, ok)
	}
}

func wantNoBool(t *testing.T, name string, got, ok bool) {
	t.Helper()
	if ok || got {
		t.Errorf("%s: got %v, %v; want false, false", name, got, ok)
	}
}

func wantNoText(t *testing.T, name string, got string, ok bool) {
	t.Helper()
	if ok || got != "" {
		t.Errorf("%s: got %q, %v; want none, false", name, got, ok)
	}
}

func wantPair(t *testing.T, name string, a, b int, ok bool, wantA, wantB int) {
	t.Helper()
	if !ok || a != wantA || b != wantB {
		t.Errorf("%s: got %d, %d, %v; want %d, %d, true", name, a, b, ok, wantA, wantB)
	}
}

func wantNoPair(t *testing.T, name string, a, b int, ok bool) {
	t.Helper()
	if ok || a != 0 || b != 0 {
		t.Errorf("%s: got %d, %d, %v; want 0, 0, false", name, a, b, ok)
	}
}

func named(name string, n int) string {
	return name + " " + strconv.Itoa(n)
}
