package tests

import (
	"math"
	"slices"
	"testing"

	"loop.example/g01305/impl"
)

func anyPaid() [][]int {
	return [][]int{nil, {1}, {1, 2, 4}, {1, 1, 2, 6}, {1, 2, 4, 8, 16, 29}, repeated(1, 8), repeated(10000, 8), repeated(100, 8), repeated(1, 9), repeated(3, 21),
		{0}, {-3}, {2, 1}, {10001}, {math.MinInt}, {math.MaxInt, math.MaxInt}}
}

func anyPlans() [][][]int {
	return [][][]int{nil, {}, {{}}, {nil, {}, nil}, {{0}}, {{0}, {1}, {0, 1}, {2}}, {{0, 1, 2}, {0, 1, 2}, {}, {2}}, {{0, 1, 2, 3, 4, 5, 6, 7}, {7}},
		slices.Repeat([][]int{{0}, {}}, 30), slices.Repeat([][]int{{0}}, 61), slices.Repeat([][]int{{}}, 3000),
		{{1, 0}}, {{0, 0}}, {{-1}}, {{8}}, {{64}}, {repeated(0, 3000)}, {{math.MinInt}}, {{math.MaxInt}}, {{0}, {math.MaxInt, math.MinInt}}}
}

func anyDays() []int {
	return []int{math.MinInt, -1, 0, 1, 2, 3, 7, 29, 59, 60, 61, 100, 101, 1 << 62, math.MaxInt}
}

type payCall func(list []int, plan [][]int, days, rate int) [][]int

// payFunctions returns all functions of chapter 3, made alike. Those that return no list return nil.
func payFunctions() map[string]payCall {
	calls := map[string]payCall{
		"IsPlan":         func(l []int, p [][]int, n, rate int) [][]int { impl.IsPlan(l, p); return nil },
		"PlanOfRun":      func(l []int, p [][]int, n, rate int) [][]int { r, _ := impl.PlanOfRun(l, n); return r },
		"MovesOfPlan":    func(l []int, p [][]int, n, rate int) [][]int { impl.MovesOfPlan(l, p); return nil },
		"FewestMoves":    func(l []int, p [][]int, n, rate int) [][]int { impl.FewestMoves(l, n, rate); return nil },
		"FirstMoves":     func(l []int, p [][]int, n, rate int) [][]int { r, _ := impl.FirstMoves(l, n, rate); return r },
		"DaysPaid":       func(l []int, p [][]int, n, rate int) [][]int { impl.DaysPaid(l, rate); return nil },
		"CountPlans":     func(l []int, p [][]int, n, rate int) [][]int { impl.CountPlans(l, n, rate); return nil },
		"PlanByRate":     func(l []int, p [][]int, n, rate int) [][]int { r, _ := impl.PlanByRate(l, n, rate); return r },
		"MovesOnDay":     func(l []int, p [][]int, n, rate int) [][]int { impl.MovesOnDay(l, p, n); return nil },
		"LeastPiecesFor": func(l []int, p [][]int, n, rate int) [][]int { r, _ := impl.LeastPiecesFor(n); return [][]int{r} },
		"PlanText":       func(l []int, p [][]int, n, rate int) [][]int { impl.PlanText(l, p); return nil },
	}
	for name, f := range dayFunctions() {
		calls[name] = func(l []int, p [][]int, n, rate int) [][]int { r, _ := f(l, p, n); return [][]int{r} }
	}
	return calls
}

// planMemory is a plan whose memory, and that of its lists, goes on behind what the plan has.
type planMemory struct {
	lists  [][]int // the lists of the plan, and behind them others
	wholes [][]int // the whole memory of each list
}

func planWithSpare(plan [][]int) planMemory {
	m := planMemory{}
	for _, way := range append(slices.Clone(plan), []int{0}, []int{spare}) {
		whole, front := withSpare(way)
		m.wholes = append(m.wholes, whole)
		m.lists = append(m.lists, front)
	}
	return m
}

func (m planMemory) copied() [][]int {
	all := [][]int{}
	for i := range m.lists {
		all = append(all, slices.Clone(m.lists[i]), slices.Clone(m.wholes[i]))
	}
	return all
}

func (m planMemory) isStill(before [][]int) bool {
	return slices.EqualFunc(m.copied(), before, slices.Equal)
}

func (m planMemory) fill() {
	for i := range m.lists {
		fillAll(m.wholes[i])
		m.lists[i] = nil
	}
}

func TestNoCallOfPayingPanicsOrModifies(t *testing.T) {
	for name, call := range payFunctions() {
		for _, list := range anyPaid() {
			for _, n := range anyDays() {
				for _, plan := range anyPlans()[:6] {
					checkPayCall(t, name, call, list, plan, n, 1)
				}
				for _, rate := range anyDays() {
					checkPayCall(t, name, call, list, nil, n, rate)
				}
			}
			for _, plan := range anyPlans() {
				for _, day := range []int{-1, 0, 1, 59, 60} {
					checkPayCall(t, name, call, list, plan, day, 1)
				}
			}
		}
	}
}

func checkPayCall(t *testing.T, name string, call payCall, list []int, plan [][]int, n, rate int) {
	t.Helper()
	defer func() {
		if r := recover(); r != nil {
			t.Errorf("%s panics: %v", payName(name, list, n, rate), r)
		}
	}()
	whole, front := withSpare(list)
	memory := planWithSpare(plan)
	pieces, before := slices.Clone(whole), memory.copied()
	first := call(front, memory.lists[:len(plan)], n, rate)
	if !slices.Equal(whole, pieces) || !memory.isStill(before) {
		t.Errorf("%s modifies its argument", payName(name, list, n, rate))
	}
	told := [][]int{}
	for _, way := range first {
		told = append(told, slices.Clone(way))
	}
	fillApart(t, payName(name, list, n, rate), first)
	if !slices.Equal(whole, pieces) || !memory.isStill(before) {
		t.Errorf("%s returns memory of its argument", payName(name, list, n, rate))
	}
	second := call(front, memory.lists[:len(plan)], n, rate)
	fillAll(whole)
	memory.fill()
	if !slices.EqualFunc(second, told, slices.Equal) {
		t.Errorf("%s returns memory of its argument or of an earlier result", payName(name, list, n, rate))
	}
}

// fillApart fills each list of a result, with the memory behind it, and checks that none of the others changes by that.
func fillApart(t *testing.T, name string, lists [][]int) {
	t.Helper()
	for i := range lists {
		lists[i] = lists[i][:cap(lists[i])]
		for k := range lists[i] {
			lists[i][k] = spare - i
		}
	}
	for i, list := range lists {
		for _, n := range list {
			if n != spare-i {
				t.Errorf("%s: two lists of one result share memory", name)
				return
			}
		}
	}
	for i := range lists[:cap(lists)] {
		lists[:cap(lists)][i] = nil
	}
}
