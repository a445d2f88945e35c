package tests

import (
	"math"
	"slices"
	"strconv"
	"strings"
	"testing"

	"loop.example/g01305/impl"
)

// payName names a call by its pieces, and its days and rate or what other numbers it takes.
func payName(name string, list []int, numbers ...int) string {
	words := []string{}
	for _, n := range list[:min(len(list), 20)] {
		words = append(words, strconv.Itoa(n))
	}
	name += " of " + strings.Join(words, "+")
	for _, n := range numbers {
		name = named(name, n)
	}
	return name
}

func wantPlan(t *testing.T, name string, got [][]int, ok bool, want [][]int) {
	t.Helper()
	if !ok || !slices.EqualFunc(got, want, slices.Equal) {
		t.Errorf("%s: got %v, %v; want %v, true", name, got, ok, want)
	}
}

func wantNoPlan(t *testing.T, name string, got [][]int, ok bool) {
	t.Helper()
	if ok || len(got) != 0 {
		t.Errorf("%s: got %v, %v; want none, false", name, got, ok)
	}
}

func TestPayExamples(t *testing.T) {
	list := []int{1, 2, 4}
	plan, ok := impl.PlanOfRun(list, 7)
	wantPlan(t, "PlanOfRun", plan, ok, [][]int{{0}, {1}, {0, 1}, {2}, {0, 2}, {1, 2}, {0, 1, 2}})
	text, ok := impl.PlanText(list, plan)
	wantText(t, "PlanText", text, ok, "+1/+2-1/+1/+4-1-2/+1/+2-1/+1")
	n, ok := impl.MovesOfPlan(list, plan)
	wantNumber(t, "MovesOfPlan", n, ok, 11)
	n, ok = impl.DaysPaid(list, 2)
	wantNumber(t, "DaysPaid by 2", n, ok, 3)
	n, ok = impl.DaysPaid(list, 1)
	wantNumber(t, "DaysPaid by 1", n, ok, 7)
}

// checkPaying compares all that is told of plans that pay with all of these plans.
func checkPaying(t *testing.T, list []int, days, rate int, plans [][][]int) {
	t.Helper()
	n, ok := impl.CountPlans(list, days, rate)
	wantNumber(t, payName("CountPlans", list, days, rate), n, ok, len(plans))
	n, ok = impl.FewestMoves(list, days, rate)
	first, fine := impl.FirstMoves(list, days, rate)
	byRate, paid := impl.PlanByRate(list, days, rate)
	if len(plans) == 0 {
		wantNoNumber(t, payName("FewestMoves", list, days, rate), n, ok)
		wantNoPlan(t, payName("FirstMoves", list, days, rate), first, fine)
		wantNoPlan(t, payName("PlanByRate", list, days, rate), byRate, paid)
		return
	}
	fewest := fewestBySearch(plans)
	wantNumber(t, payName("FewestMoves", list, days, rate), n, ok, movesBySearch(fewest))
	wantPlan(t, payName("FirstMoves", list, days, rate), first, fine, fewest)
	wantPlan(t, payName("PlanByRate", list, days, rate), byRate, paid, plans[0])
}

func TestPlansThatPayAreThoseOfAllPlans(t *testing.T) {
	mostDays := []int{5, 5, 5, 4, 3, 2, 2, 1, 1}
	for _, list := range paidLists() {
		for _, rate := range []int{1, 2, 3, 10} {
			longest := 0
			for days := range mostDays[len(list)] + 1 {
				plans := payingPlans(list, days, rate)
				checkPaying(t, list, days, rate, plans)
				if len(plans) > 0 {
					longest = days
				}
			}
			n, ok := impl.DaysPaid(list, rate)
			if !ok || min(n, mostDays[len(list)]) != longest {
				t.Errorf("%s: got %d, %v; want %d, true", payName("DaysPaid", list, rate), n, ok, longest)
			}
		}
	}
}

func TestPlansThatPayAreThoseOfTheWays(t *testing.T) {
	checked, improved := 0, 0
	for _, list := range paidLists() {
		for _, rate := range []int{1, 2, 3, 5} {
			longest := 0
			for days := range 61 {
				plans, ok := payingPlansByWays(list, days, rate)
				if !ok {
					longest = -1
					break
				}
				checkPaying(t, list, days, rate, plans)
				if len(plans) == 0 {
					break
				}
				longest = days
				checked++
				if len(plans) > 1 && !slices.EqualFunc(fewestBySearch(plans), plans[0], slices.Equal) {
					improved++
				}
			}
			if longest >= 0 {
				n, ok := impl.DaysPaid(list, rate)
				wantNumber(t, payName("DaysPaid", list, rate), n, ok, longest)
			}
		}
	}
	if checked < 1000 || improved < 100 {
		t.Error("too few plans for a test:", checked, improved)
	}
}

func TestPlanOfRunHoldsTheFirstWays(t *testing.T) {
	for _, list := range paidLists() {
		ways := searchWays(list)
		want := [][]int{}
		for days := range 61 {
			plan, ok := impl.PlanOfRun(list, days)
			if days > 0 && want != nil && ways[days] != nil {
				want = append(want, ways[days][0])
			} else if days > 0 {
				want = nil
			}
			if want == nil {
				wantNoPlan(t, payName("PlanOfRun", list, days), plan, ok)
				continue
			}
			wantPlan(t, payName("PlanOfRun", list, days), plan, ok, want)
			checkHolds(t, list, plan, 1)
		}
	}
}

// checkHolds checks that behind each day of a plan the rate times the days that are over is held.
func checkHolds(t *testing.T, list []int, plan [][]int, rate int) {
	t.Helper()
	for day := range plan {
		sums, ok := impl.HeldAt(list, plan, day)
		wantList(t, payName("HeldAt", list, day), sums, ok, []int{rate * (day + 1), rate})
		way, ok := impl.FirstWay(list, rate*(day+1))
		if !ok || slices.Compare(way, plan[day]) > 0 {
			t.Error(payName("a plan is before the FirstWay", list, day, rate))
		}
	}
}

func TestPlansHoldTheRateBehindEachDay(t *testing.T) {
	for _, list := range paidLists() {
		for _, rate := range []int{1, 2, 3, 7, 50, 99, 100} {
			days, ok := impl.DaysPaid(list, rate)
			if !ok {
				t.Error(payName("DaysPaid", list, rate))
			}
			first, ok := impl.FirstMoves(list, days, rate)
			byRate, fine := impl.PlanByRate(list, days, rate)
			if !ok || !fine || len(first) != days || len(byRate) != days {
				t.Error(payName("no plan for DaysPaid", list, days, rate))
			}
			checkHolds(t, list, first, rate)
			checkHolds(t, list, byRate, rate)
			n, ok := impl.FewestMoves(list, days, rate)
			wantNumber(t, payName("FewestMoves", list, days, rate), n, ok, movesBySearch(first))
			if n > movesBySearch(byRate) {
				t.Error(payName("PlanByRate has less than the FewestMoves", list, days, rate))
			}
			if days == impl.MaxDays {
				continue
			}
			n, ok = impl.CountPlans(list, days+1, rate)
			wantNumber(t, payName("CountPlans", list, days+1, rate), n, ok, 0)
			n, ok = impl.FewestMoves(list, days+1, rate)
			wantNoNumber(t, payName("FewestMoves", list, days+1, rate), n, ok)
		}
	}
}

func TestPlansTellTheirChanges(t *testing.T) {
	still, empty := 0, 0
	for _, p := range somePlans() {
		is, ok := impl.IsPlan(p.list, p.plan)
		wantBool(t, payName("IsPlan", p.list), is, ok, true)
		n, ok := impl.MovesOfPlan(p.list, p.plan)
		wantNumber(t, payName("MovesOfPlan", p.list), n, ok, movesBySearch(p.plan))
		text, ok := impl.PlanText(p.list, p.plan)
		wantText(t, payName("PlanText", p.list), text, ok, textBySearch(p.list, p.plan))
		for day := range p.plan {
			given, taken := givenBySearch(p.plan, day), takenBySearch(p.plan, day)
			list, ok := impl.GivenAt(p.list, p.plan, day)
			wantList(t, payName("GivenAt", p.list, day), list, ok, given)
			list, ok = impl.TakenAt(p.list, p.plan, day)
			wantList(t, payName("TakenAt", p.list, day), list, ok, taken)
			n, ok := impl.MovesOnDay(p.list, p.plan, day)
			wantNumber(t, payName("MovesOnDay", p.list, day), n, ok, len(given)+len(taken))
			sum := sumAt(p.list, p.plan[day])
			list, ok = impl.HeldAt(p.list, p.plan, day)
			wantList(t, payName("HeldAt", p.list, day), list, ok, []int{sum, sumAt(p.list, given) - sumAt(p.list, taken)})
			if len(given)+len(taken) == 0 {
				still++
			}
			if len(p.plan[day]) == 0 {
				empty++
			}
		}
	}
	if still < 1000 || empty < 1000 {
		t.Error("too few days without moves or pieces for a test:", still, empty)
	}
}

func TestPlanOfNoDays(t *testing.T) {
	for _, list := range [][]int{nil, {}, {1}, {1, 2, 4}, repeated(impl.MaxPiece, 8)} {
		for _, plan := range [][][]int{nil, {}} {
			is, ok := impl.IsPlan(list, plan)
			wantBool(t, payName("IsPlan", list), is, ok, true)
			n, ok := impl.MovesOfPlan(list, plan)
			wantNumber(t, payName("MovesOfPlan", list), n, ok, 0)
			text, ok := impl.PlanText(list, plan)
			wantText(t, payName("PlanText", list), text, ok, "")
			wantNoDay(t, list, plan, 0)
		}
		plan, ok := impl.PlanOfRun(list, 0)
		wantPlan(t, payName("PlanOfRun", list), plan, ok, nil)
		for _, rate := range []int{1, 100} {
			checkPaying(t, list, 0, rate, [][][]int{{}})
		}
	}
}

func TestDaysWithoutMovesOrPieces(t *testing.T) {
	list := []int{3, 3, 5}
	plan := [][]int{{}, {0, 2}, {0, 2}, {1, 2}, {}, {}, {0, 1, 2}}
	for day, want := range []struct {
		held         []int
		given, taken []int
	}{
		{[]int{0, 0}, nil, nil}, {[]int{8, 8}, []int{0, 2}, nil}, {[]int{8, 0}, nil, nil}, {[]int{8, 0}, []int{1}, []int{0}},
		{[]int{0, -8}, nil, []int{1, 2}}, {[]int{0, 0}, nil, nil}, {[]int{11, 11}, []int{0, 1, 2}, nil},
	} {
		sums, ok := impl.HeldAt(list, plan, day)
		wantList(t, named("HeldAt", day), sums, ok, want.held)
		way, ok := impl.GivenAt(list, plan, day)
		wantList(t, named("GivenAt", day), way, ok, want.given)
		way, ok = impl.TakenAt(list, plan, day)
		wantList(t, named("TakenAt", day), way, ok, want.taken)
		n, ok := impl.MovesOnDay(list, plan, day)
		wantNumber(t, named("MovesOnDay", day), n, ok, len(want.given)+len(want.taken))
	}
	n, ok := impl.MovesOfPlan(list, plan)
	wantNumber(t, "MovesOfPlan", n, ok, 9)
	text, ok := impl.PlanText(list, plan)
	wantText(t, "PlanText", text, ok, "=/+3+5/=/+3-3/-3-5/=/+3+3+5")
	text, ok = impl.PlanText(nil, [][]int{nil})
	wantText(t, "PlanText of one day and no pieces", text, ok, "=")
}

func TestPlansOfMaxDays(t *testing.T) {
	plan := [][]int{}
	for day := range impl.MaxDays {
		plan = append(plan, [][]int{{}, {0}, {0, 1}}[day%3])
	}
	list := []int{2, 7}
	is, ok := impl.IsPlan(list, plan)
	wantBool(t, "IsPlan", is, ok, true)
	n, ok := impl.MovesOfPlan(list, plan)
	wantNumber(t, "MovesOfPlan", n, ok, 19*4+2)
	text, ok := impl.PlanText(list, plan)
	wantText(t, "PlanText", text, ok, "=/+2/+7"+strings.Repeat("/-2-7/+2/+7", 19))
	sums, ok := impl.HeldAt(list, plan, 0)
	wantList(t, "HeldAt the first day", sums, ok, []int{0, 0})
	sums, ok = impl.HeldAt(list, plan, 57)
	wantList(t, "HeldAt a day that takes all", sums, ok, []int{0, -9})
	sums, ok = impl.HeldAt(list, plan, 59)
	wantList(t, "HeldAt the last day", sums, ok, []int{9, 7})
	way, ok := impl.GivenAt(list, plan, 59)
	wantList(t, "GivenAt the last day", way, ok, []int{1})
	wantNoDay(t, list, plan, -1)
	wantNoDay(t, list, plan, impl.MaxDays)
}

func TestMaxDaysArePaid(t *testing.T) {
	list := []int{1, 2, 4, 8, 16, 29}
	n, ok := impl.DaysPaid(list, 1)
	wantNumber(t, "DaysPaid", n, ok, 60)
	plan, ok := impl.PlanOfRun(list, 60)
	if !ok || len(plan) != 60 || !slices.Equal(plan[0], []int{0}) || !slices.Equal(plan[59], []int{0, 1, 2, 3, 4, 5}) {
		t.Error("PlanOfRun of 60 days:", plan, ok)
	}
	// More could be paid, but not more days are told.
	for _, more := range [][]int{{1, 2, 4, 8, 16, 32}, {1, 2, 4, 8, 16, 30}, {1, 2, 4, 8, 16, 32, 64, 128}} {
		n, ok = impl.DaysPaid(more, 1)
		wantNumber(t, payName("DaysPaid", more, 1), n, ok, 60)
	}
	hundreds := []int{100, 200, 400, 800, 1600, 2900}
	n, ok = impl.DaysPaid(hundreds, 100)
	wantNumber(t, "DaysPaid by the rate 100", n, ok, 60)
	for _, c := range []struct {
		list []int
		rate int
	}{{list, 1}, {hundreds, 100}} {
		first, ok := impl.FirstMoves(c.list, 60, c.rate)
		if !ok || len(first) != 60 {
			t.Error(payName("FirstMoves", c.list, 60, c.rate), len(first), ok)
		}
		checkHolds(t, c.list, first, c.rate)
		n, ok = impl.CountPlans(c.list, 60, c.rate)
		wantNumber(t, payName("CountPlans", c.list, 60, c.rate), n, ok, 8)
	}
	n, ok = impl.CountPlans([]int{1, 2, 4, 8, 16, 32}, 60, 1)
	wantNumber(t, "CountPlans without a choice", n, ok, 1)
}

func TestCountPlansUpToItsLimit(t *testing.T) {
	for _, c := range []struct {
		list             []int
		rate, days, want int
	}{
		{[]int{2, 2, 3, 3, 3, 3, 3, 5}, 2, 11, 1000000000},
		{[]int{2, 2, 3, 3, 3, 3, 3, 5}, 2, 12, 1000000000},
		{[]int{2, 2, 3, 3, 3, 3, 3, 5}, 2, 13, 0},
		{[]int{2, 2, 3, 3, 3, 3, 3, 5}, 2, 60, 0},
		{[]int{1, 2, 4, 7, 8, 8, 8, 8}, 3, 13, 1000000000},
		{repeated(1, 8), 1, 1, 8},
		{repeated(1, 8), 1, 2, 224},
		{repeated(1, 8), 1, 5, 49172480},
		{repeated(1, 8), 1, 9, 0},
		{repeated(1, 8), 1, 60, 0},
		{repeated(1, 8), 4, 2, 70},
		{repeated(100, 8), 100, 5, 49172480},
		{nil, 1, 0, 1},
		{nil, 1, 1, 0},
	} {
		n, ok := impl.CountPlans(c.list, c.days, c.rate)
		wantNumber(t, payName("CountPlans", c.list, c.days, c.rate), n, ok, c.want)
	}
	for _, c := range []struct {
		list       []int
		rate, days int
	}{
		{repeated(1, 8), 1, 6}, {repeated(1, 8), 1, 8}, {repeated(100, 8), 100, 6},
		{[]int{1, 1, 1, 3, 4, 4, 5}, 1, 11}, {[]int{1, 2, 2, 2, 7, 8, 10}, 1, 17},
	} {
		n, ok := impl.CountPlans(c.list, c.days, c.rate)
		wantNoNumber(t, payName("CountPlans", c.list, c.days, c.rate), n, ok)
		n, ok = impl.FewestMoves(c.list, c.days, c.rate)
		if !ok || n < c.days {
			t.Error(payName("FewestMoves of too many plans to count", c.list, c.days, c.rate), n, ok)
		}
	}
}

func TestPiecesOfTheSameLength(t *testing.T) {
	list := repeated(3, 8)
	plan, ok := impl.FirstMoves(list, 8, 3)
	want := [][]int{{0}, {0, 1}, {0, 1, 2}, {0, 1, 2, 3}, {0, 1, 2, 3, 4}, {0, 1, 2, 3, 4, 5}, {0, 1, 2, 3, 4, 5, 6}, {0, 1, 2, 3, 4, 5, 6, 7}}
	wantPlan(t, "FirstMoves of eight alike", plan, ok, want)
	plan, ok = impl.PlanByRate(list, 8, 3)
	wantPlan(t, "PlanByRate of eight alike", plan, ok, want)
	n, ok := impl.FewestMoves(list, 8, 3)
	wantNumber(t, "FewestMoves of eight alike", n, ok, 8)
	n, ok = impl.DaysPaid(list, 3)
	wantNumber(t, "DaysPaid of eight alike", n, ok, 8)
	text, ok := impl.PlanText(list, want)
	wantText(t, "PlanText of eight alike", text, ok, "+3/+3/+3/+3/+3/+3/+3/+3")
	n, ok = impl.DaysPaid(list, 1)
	wantNumber(t, "DaysPaid of eight alike by 1", n, ok, 0)
	// The other one of two pieces of the same length is another plan, which has moves where nothing seems to change.
	plan = [][]int{{0}, {1}}
	text, ok = impl.PlanText(list, plan)
	wantText(t, "PlanText of one for the other", text, ok, "+3/+3-3")
}

func TestFirstMovesAreNotTheFirstWays(t *testing.T) {
	list := []int{1, 1, 2}
	plan, ok := impl.PlanByRate(list, 3, 1)
	wantPlan(t, "PlanByRate", plan, ok, [][]int{{0}, {0, 1}, {0, 2}})
	plan, ok = impl.FirstMoves(list, 4, 1)
	wantPlan(t, "FirstMoves", plan, ok, [][]int{{0}, {0, 1}, {0, 2}, {0, 1, 2}})
	n, ok := impl.FewestMoves(list, 4, 1)
	wantNumber(t, "FewestMoves", n, ok, 5)
	list = []int{1, 2, 2, 3}
	plan, ok = impl.PlanByRate(list, 2, 2)
	wantPlan(t, "PlanByRate", plan, ok, [][]int{{1}, {0, 3}})
	plan, ok = impl.FirstMoves(list, 2, 2)
	wantPlan(t, "FirstMoves", plan, ok, [][]int{{1}, {1, 2}})
	n, ok = impl.FewestMoves(list, 2, 2)
	wantNumber(t, "FewestMoves", n, ok, 2)
	// The last day needs fewer moves with a way that is not the first one.
	list = []int{1, 1, 2, 6}
	plan, ok = impl.FirstMoves(list, 4, 2)
	wantPlan(t, "FirstMoves", plan, ok, [][]int{{0, 1}, {0, 1, 2}, {3}, {2, 3}})
	n, ok = impl.FewestMoves(list, 4, 2)
	wantNumber(t, "FewestMoves", n, ok, 8)
}

func TestFirstMovesOfManyPlans(t *testing.T) {
	for _, list := range paidLists() {
		for _, rate := range []int{1, 2, 3} {
			days, _ := impl.DaysPaid(list, rate)
			for ; days > 0; days -= 5 {
				plan, ok := impl.FirstMoves(list, days, rate)
				wantPlan(t, payName("FirstMoves", list, days, rate), plan, ok, fewestByDays(list, days, rate))
			}
		}
	}
}

func TestPayingWithoutPieces(t *testing.T) {
	for _, list := range [][]int{nil, {}} {
		for _, rate := range []int{1, 2, 100} {
			n, ok := impl.DaysPaid(list, rate)
			wantNumber(t, "DaysPaid", n, ok, 0)
			for days := 1; days <= 60; days += 59 {
				checkPaying(t, list, days, rate, nil)
				plan, ok := impl.PlanOfRun(list, days)
				wantNoPlan(t, "PlanOfRun", plan, ok)
			}
		}
		plan := [][]int{{}, nil, {}}
		is, ok := impl.IsPlan(list, plan)
		wantBool(t, "IsPlan", is, ok, true)
		text, ok := impl.PlanText(list, plan)
		wantText(t, "PlanText", text, ok, "=/=/=")
		sums, ok := impl.HeldAt(list, plan, 2)
		wantList(t, "HeldAt", sums, ok, []int{0, 0})
		is, ok = impl.IsPlan(list, [][]int{{0}})
		wantBool(t, "IsPlan of a piece that is not there", is, ok, false)
	}
}

func TestMaxPaidPieces(t *testing.T) {
	list := repeated(impl.MaxPiece, impl.MaxPaid)
	plan := [][]int{{0, 1, 2, 3, 4, 5, 6, 7}, {7}}
	is, ok := impl.IsPlan(list, plan)
	wantBool(t, "IsPlan", is, ok, true)
	sums, ok := impl.HeldAt(list, plan, 0)
	wantList(t, "HeldAt", sums, ok, []int{80000, 80000})
	sums, ok = impl.HeldAt(list, plan, 1)
	wantList(t, "HeldAt", sums, ok, []int{10000, -70000})
	way, ok := impl.TakenAt(list, plan, 1)
	wantList(t, "TakenAt", way, ok, []int{0, 1, 2, 3, 4, 5, 6})
	n, ok := impl.MovesOfPlan(list, plan)
	wantNumber(t, "MovesOfPlan", n, ok, 15)
	list = []int{1, 2, 4, 8, 16, 32, 64, 128}
	for _, c := range []struct{ rate, days int }{{1, 60}, {4, 60}, {5, 51}, {100, 2}, {51, 5}, {85, 3}, {86, 2}} {
		n, ok = impl.DaysPaid(list, c.rate)
		wantNumber(t, payName("DaysPaid", list, c.rate), n, ok, c.days)
	}
}

func TestLeastPiecesFor(t *testing.T) {
	for days, want := range map[int][]int{
		0: nil, 1: {1}, 2: {1, 1}, 3: {1, 2}, 4: {1, 1, 2}, 5: {1, 2, 2}, 6: {1, 2, 3}, 7: {1, 2, 4}, 8: {1, 1, 2, 4}, 14: {1, 2, 4, 7},
		15: {1, 2, 4, 8}, 16: {1, 1, 2, 4, 8}, 31: {1, 2, 4, 8, 16}, 32: {1, 1, 2, 4, 8, 16}, 47: {1, 2, 4, 8, 16, 16}, 60: {1, 2, 4, 8, 16, 29},
	} {
		list, ok := impl.LeastPiecesFor(days)
		wantList(t, named("LeastPiecesFor", days), list, ok, want)
	}
	for days := range 61 {
		list, ok := impl.LeastPiecesFor(days)
		if !ok || !slices.IsSorted(list) || totalOf(list) != days || searchRun(list) != days {
			t.Errorf("LeastPiecesFor %d: got %v, %v", days, list, ok)
		}
		if fewer := len(list) - 1; fewer >= 0 && days > 1<<fewer*2-1 {
			t.Errorf("LeastPiecesFor %d: %v cannot pay", days, list)
		}
		n, ok := impl.DaysPaid(list, 1)
		wantNumber(t, payName("DaysPaid of LeastPiecesFor", list, days), n, ok, days)
	}
	for _, days := range []int{-1, -60, 61, 62, 64, 1000, math.MinInt, math.MaxInt} {
		list, ok := impl.LeastPiecesFor(days)
		wantNoList(t, named("LeastPiecesFor", days), list, ok)
	}
}

// wantNoDay checks that no function tells anything of a day.
func wantNoDay(t *testing.T, list []int, plan [][]int, day int) {
	t.Helper()
	for name, f := range dayFunctions() {
		got, ok := f(list, plan, day)
		wantNoList(t, payName(name, list, day), got, ok)
	}
	n, ok := impl.MovesOnDay(list, plan, day)
	wantNoNumber(t, payName("MovesOnDay", list, day), n, ok)
}

// dayFunctions returns the functions that return a list for a day of a plan.
func dayFunctions() map[string]func([]int, [][]int, int) ([]int, bool) {
	return map[string]func([]int, [][]int, int) ([]int, bool){"HeldAt": impl.HeldAt, "GivenAt": impl.GivenAt, "TakenAt": impl.TakenAt}
}

func TestDaysThatAPlanDoesNotHave(t *testing.T) {
	plan, _ := impl.PlanOfRun([]int{1, 2, 4}, 7)
	for _, day := range []int{-1, -2, -7, 7, 8, 59, 60, 61, math.MinInt, math.MaxInt} {
		wantNoDay(t, []int{1, 2, 4}, plan, day)
	}
}

func TestListsThatAreNoPlans(t *testing.T) {
	list := []int{1, 2, 4}
	for _, plan := range [][][]int{
		slices.Repeat([][]int{{}}, 61), slices.Repeat([][]int{{0, 1}}, 61), slices.Repeat([][]int{nil}, 5000),
		{{1, 0}}, {{0, 2, 1}}, {{0, 0}}, {{0, 1, 1}}, {{2, 2}}, {{3}}, {{0, 3}}, {{0, 1, 2, 3}}, {{-1}}, {{-1, 0}}, {{0, -1}}, {{0}, {1}, {3}},
		{{0}, {1, 0}, {2}}, {{2}, {-1}}, {{}, {1, 1}}, {{8}}, {{64}}, {{math.MaxInt}}, {{math.MinInt}}, {{math.MinInt, 0}}, {{0, math.MaxInt}},
		{{0, math.MaxInt, 1}}, {{math.MaxInt, math.MinInt}}, {repeated(0, 5000)}, {{0, 1, 2, 0}},
	} {
		is, ok := impl.IsPlan(list, plan)
		wantBool(t, "IsPlan", is, ok, false)
		wantNoTextOfPlan(t, list, plan)
	}
	plan := append(slices.Repeat([][]int{{0}}, 59), []int{3})
	is, ok := impl.IsPlan(list, plan)
	wantBool(t, "IsPlan of a wrong last day", is, ok, false)
	wantNoTextOfPlan(t, list, plan)
}

// wantNoTextOfPlan checks that no function tells anything of a plan.
func wantNoTextOfPlan(t *testing.T, list []int, plan [][]int) {
	t.Helper()
	n, ok := impl.MovesOfPlan(list, plan)
	wantNoNumber(t, payName("MovesOfPlan", list), n, ok)
	text, ok := impl.PlanText(list, plan)
	wantNoText(t, payName("PlanText", list), text, ok)
	for day := -1; day <= 61; day++ {
		wantNoDay(t, list, plan, day)
	}
}

func TestPayingWithListsThatAreNoPieces(t *testing.T) {
	for _, list := range [][]int{
		repeated(1, 9), repeated(1, 20), repeated(1, 21), doubled(9), repeated(1, 5000), {0}, {0, 1}, {-1}, {-1, 1}, {2, 1}, {1, 3, 2}, {10001}, {1, 10001},
		{math.MaxInt}, {math.MinInt}, {math.MinInt, math.MaxInt}, {math.MaxInt, math.MaxInt},
	} {
		for _, plan := range [][][]int{nil, {}, {{}}, {{0}}, {{0}, {}}, {{5}}, slices.Repeat([][]int{{}}, 61)} {
			is, ok := impl.IsPlan(list, plan)
			wantNoBool(t, payName("IsPlan", list), is, ok)
			wantNoTextOfPlan(t, list, plan)
		}
		for _, days := range []int{0, 1, 60} {
			wantNoPaying(t, list, days, 1)
		}
		n, ok := impl.DaysPaid(list, 1)
		wantNoNumber(t, payName("DaysPaid", list, 1), n, ok)
		plan, ok := impl.PlanOfRun(list, 0)
		wantNoPlan(t, payName("PlanOfRun", list, 0), plan, ok)
	}
}

// wantNoPaying checks that no function takes days and a rate.
func wantNoPaying(t *testing.T, list []int, days, rate int) {
	t.Helper()
	n, ok := impl.FewestMoves(list, days, rate)
	wantNoNumber(t, payName("FewestMoves", list, days, rate), n, ok)
	n, ok = impl.CountPlans(list, days, rate)
	wantNoNumber(t, payName("CountPlans", list, days, rate), n, ok)
	plan, ok := impl.FirstMoves(list, days, rate)
	wantNoPlan(t, payName("FirstMoves", list, days, rate), plan, ok)
	plan, ok = impl.PlanByRate(list, days, rate)
	wantNoPlan(t, payName("PlanByRate", list, days, rate), plan, ok)
}

func TestDaysAndRatesThatAreNone(t *testing.T) {
	for _, list := range [][]int{nil, {1, 2, 4}, {1, 2, 4, 8, 16, 32}, repeated(10000, 8)} {
		for _, days := range []int{-1, -60, 61, 62, 1000, math.MinInt, math.MaxInt} {
			wantNoPaying(t, list, days, 1)
			wantNoPaying(t, list, days, 100)
			plan, ok := impl.PlanOfRun(list, days)
			wantNoPlan(t, payName("PlanOfRun", list, days), plan, ok)
		}
		for _, rate := range []int{0, -1, -100, 101, 102, 10000, 1 << 62, math.MinInt, math.MaxInt} {
			for _, days := range []int{0, 1, 2, 60} {
				wantNoPaying(t, list, days, rate)
			}
			n, ok := impl.DaysPaid(list, rate)
			wantNoNumber(t, payName("DaysPaid", list, rate), n, ok)
		}
	}
}
