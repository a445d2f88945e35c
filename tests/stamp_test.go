package tests

import (
	"maps"
	"math"
	"slices"
	"testing"

	"loop.example/g01305/impl"
)

func TestStampExamples(t *testing.T) {
	for value := range 8 {
		can, ok := impl.CanStamp([]int{1, 3}, 3, value)
		wantBool(t, named("CanStamp", value), can, ok, true)
	}
	can, ok := impl.CanStamp([]int{1, 3}, 3, 8)
	wantBool(t, "CanStamp 8", can, ok, false)
	n, ok := impl.ReachOf([]int{1, 3}, 3)
	wantNumber(t, "ReachOf", n, ok, 7)
	n, ok = impl.BestReach(2, 3)
	wantNumber(t, "BestReach", n, ok, 7)
	list, ok := impl.FirstBest(2, 3)
	wantList(t, "FirstBest", list, ok, []int{1, 3})
	n, ok = impl.NextStamp([]int{1}, 3)
	wantNumber(t, "NextStamp", n, ok, 3)
	n, ok = impl.FewestStamps([]int{1, 5, 8}, 10)
	wantNumber(t, "FewestStamps", n, ok, 2)
	list, ok = impl.FirstStamps([]int{1, 3}, 3, 5)
	wantList(t, "FirstStamps", list, ok, []int{2, 1})
}

// checkValue compares what is told of a value with all ways to reach it, and with the least number of stamps for it, -1 if there is none.
func checkValue(t *testing.T, stamps []int, room, value int, ways [][]int, fewest int) {
	t.Helper()
	can, ok := impl.CanStamp(stamps, room, value)
	wantBool(t, payName("CanStamp", stamps, room, value), can, ok, len(ways) > 0)
	n, ok := impl.CountStampWays(stamps, room, value)
	wantNumber(t, payName("CountStampWays", stamps, room, value), n, ok, len(ways))
	first, ok := impl.FirstStamps(stamps, room, value)
	if len(ways) == 0 {
		wantNoList(t, payName("FirstStamps", stamps, room, value), first, ok)
	} else {
		wantList(t, payName("FirstStamps", stamps, room, value), first, ok, ways[0])
	}
	n, ok = impl.FewestStamps(stamps, value)
	if fewest < 0 {
		wantNoNumber(t, payName("FewestStamps", stamps, value), n, ok)
	} else {
		wantNumber(t, payName("FewestStamps", stamps, value), n, ok, fewest)
	}
	if can != (ok && n <= room) {
		t.Errorf("%s: not reached exactly if the fewest stamps, %d, are few enough", payName("CanStamp", stamps, room, value), n)
	}
}

func TestValuesAreReachedAsInTheSearch(t *testing.T) {
	for _, stamps := range stampLists() {
		for room := 1; room <= impl.MaxRoom; room++ {
			ways := waysByValue(stamps, room)
			top := room*slices.Max(stamps) + 3
			fewest := fewestByLetters(stamps, top)
			for value := range top + 1 {
				checkValue(t, stamps, room, value, ways[value], fewest[value])
			}
			values, ok := impl.ValuesOf(stamps, room)
			wantList(t, payName("ValuesOf", stamps, room), values, ok, slices.Sorted(maps.Keys(ways)))
			values, ok = impl.ValuesWith(stamps, room)
			wantList(t, payName("ValuesWith", stamps, room), values, ok, valuesOfJust(stamps, room))
		}
	}
}

func TestFewestStampsAreThoseOfTheWays(t *testing.T) {
	for _, stamps := range stampLists() {
		ways := waysByValue(stamps, impl.MaxRoom)
		for value, all := range ways {
			fewest := impl.MaxRoom
			for _, way := range all {
				fewest = min(fewest, totalOf(way))
			}
			n, ok := impl.FewestStamps(stamps, value)
			wantNumber(t, payName("FewestStamps", stamps, value), n, ok, fewest)
		}
	}
}

func TestReachesAreThoseOfTheSearch(t *testing.T) {
	for _, stamps := range stampLists() {
		for room := 1; room <= impl.MaxRoom; room++ {
			ways, reach := waysByValue(stamps, room), 0
			for ways[reach+1] != nil {
				reach++
			}
			if reach != reachBySearch(stamps, room) {
				t.Fatal("the searches do not agree:", stamps, room)
			}
			n, ok := impl.ReachOf(stamps, room)
			wantNumber(t, payName("ReachOf", stamps, room), n, ok, reach)
			can, ok := impl.CanStamp(stamps, room, reach)
			wantBool(t, payName("CanStamp the reach", stamps, room), can, ok, true)
			can, ok = impl.CanStamp(stamps, room, reach+1)
			wantBool(t, payName("CanStamp behind the reach", stamps, room), can, ok, false)
			checkNeedless(t, stamps, room, reach)
			checkNext(t, stamps, room)
		}
	}
}

func checkNeedless(t *testing.T, stamps []int, room, reach int) {
	t.Helper()
	got, ok := impl.NeedlessStamps(stamps, room)
	if len(stamps) == 1 {
		wantNoList(t, payName("NeedlessStamps", stamps, room), got, ok)
		return
	}
	needless := []int{}
	for i, stamp := range stamps {
		if reachBySearch(slices.Delete(slices.Clone(stamps), i, i+1), room) == reach {
			needless = append(needless, stamp)
		}
	}
	wantList(t, payName("NeedlessStamps", stamps, room), got, ok, needless)
}

func checkNext(t *testing.T, stamps []int, room int) {
	t.Helper()
	n, ok := impl.NextStamp(stamps, room)
	next := 0
	if len(stamps) < impl.MaxKinds {
		next = nextBySearch(stamps, room)
	}
	if next == 0 {
		wantNoNumber(t, payName("NextStamp", stamps, room), n, ok)
		return
	}
	wantNumber(t, payName("NextStamp", stamps, room), n, ok, next)
}

func TestRoomForIsTheLeast(t *testing.T) {
	for _, stamps := range stampLists() {
		reach := map[int]int{}
		for room := 1; room <= impl.MaxRoom; room++ {
			reach[room] = reachBySearch(stamps, room)
		}
		for value := range reach[impl.MaxRoom] + 3 {
			least := 1
			for least <= impl.MaxRoom && reach[least] < value {
				least++
			}
			n, ok := impl.RoomFor(stamps, value)
			if least > impl.MaxRoom {
				wantNoNumber(t, payName("RoomFor", stamps, value), n, ok)
			} else {
				wantNumber(t, payName("RoomFor", stamps, value), n, ok, least)
			}
		}
	}
}

// bestBySearch returns the greatest reach, and all sets that have it, in lexicographic order.
// Sets of three kinds are tried with 1 alone, as without it nothing is reached. There are at most 56 ways to take stamps,
// so that a stamp of more than 56 is none of those that make the values up to the reach.
func bestBySearch(kinds, room int) (best int, sets [][]int) {
	try := func(set []int) {
		reach := reachBySearch(set, room)
		if reach > best {
			best, sets = reach, nil
		}
		if reach == best {
			sets = append(sets, set)
		}
	}
	if kinds < 3 {
		eachSet(kinds, 1, 120, try)
	} else {
		eachSet(kinds-1, 2, 120, func(set []int) { try(append([]int{1}, set...)) })
	}
	return best, sets
}

func TestBestSetsAreThoseOfTheSearch(t *testing.T) {
	for kinds := 1; kinds <= 3; kinds++ {
		for room := 1; room <= 5; room++ {
			best, sets := bestBySearch(kinds, room)
			n, ok := impl.BestReach(kinds, room)
			wantNumber(t, payName("BestReach", nil, kinds, room), n, ok, best)
			first, ok := impl.FirstBest(kinds, room)
			wantList(t, payName("FirstBest", nil, kinds, room), first, ok, sets[0])
			n, ok = impl.CountBest(kinds, room)
			wantNumber(t, payName("CountBest", nil, kinds, room), n, ok, len(sets))
			n, ok = impl.ReachOf(first, room)
			wantNumber(t, payName("ReachOf FirstBest", first, room), n, ok, best)
		}
	}
}

func TestNoSetReachesMoreThanTheBest(t *testing.T) {
	small := [][]int{}
	for kinds := 1; kinds <= 3; kinds++ {
		eachSet(kinds, 1, 14, func(set []int) { small = append(small, set) })
	}
	for room := 1; room <= 5; room++ {
		for _, set := range small {
			best, _ := impl.BestReach(len(set), room)
			n, ok := impl.ReachOf(set, room)
			if !ok || n > best {
				t.Errorf("%s: got %d, %v, more than the best, %d", payName("ReachOf", set, room), n, ok, best)
			}
		}
	}
}

func TestBestSetsOfNamedKinds(t *testing.T) {
	for _, c := range []struct {
		kinds, room, reach, count int
		first                     []int
	}{
		{1, 1, 1, 1, []int{1}}, {1, 2, 2, 1, []int{1}}, {1, 5, 5, 1, []int{1}},
		{2, 1, 2, 1, []int{1, 2}}, {2, 2, 4, 2, []int{1, 2}}, {2, 4, 10, 2, []int{1, 3}}, {2, 5, 14, 1, []int{1, 4}},
		{3, 1, 3, 1, []int{1, 2, 3}}, {3, 2, 8, 1, []int{1, 3, 4}}, {3, 3, 15, 1, []int{1, 4, 5}}, {3, 4, 26, 1, []int{1, 5, 8}}, {3, 5, 35, 1, []int{1, 6, 7}},
	} {
		n, ok := impl.BestReach(c.kinds, c.room)
		wantNumber(t, payName("BestReach", nil, c.kinds, c.room), n, ok, c.reach)
		first, ok := impl.FirstBest(c.kinds, c.room)
		wantList(t, payName("FirstBest", nil, c.kinds, c.room), first, ok, c.first)
		n, ok = impl.CountBest(c.kinds, c.room)
		wantNumber(t, payName("CountBest", nil, c.kinds, c.room), n, ok, c.count)
	}
}

func TestRoomForOneStamp(t *testing.T) {
	for _, stamps := range [][]int{{1}, {1, 2, 3}, {1, 3}, {2, 3}, {7, 500}, {1, 2, 3, 4, 5, 6}} {
		values, ok := impl.ValuesOf(stamps, 1)
		wantList(t, payName("ValuesOf", stamps, 1), values, ok, append([]int{0}, stamps...))
		values, ok = impl.ValuesWith(stamps, 1)
		wantList(t, payName("ValuesWith", stamps, 1), values, ok, stamps)
		for value := range 520 {
			n, ok := impl.CountStampWays(stamps, 1, value)
			is := value == 0 || slices.Contains(stamps, value)
			if !ok || (n == 1) != is || (n == 0) == is {
				t.Errorf("%s: got %d, %v", payName("CountStampWays", stamps, 1, value), n, ok)
			}
		}
	}
	for _, c := range []struct {
		stamps         []int
		reach, next    int
		needless, last []int
	}{
		{[]int{1}, 1, 2, nil, []int{1}},
		{[]int{1, 2, 3}, 3, 4, nil, []int{0, 0, 1}},
		{[]int{1, 3}, 1, 0, []int{3}, []int{0, 1}},
		{[]int{2, 3}, 0, 0, []int{2, 3}, []int{0, 1}},
	} {
		n, ok := impl.ReachOf(c.stamps, 1)
		wantNumber(t, payName("ReachOf", c.stamps, 1), n, ok, c.reach)
		n, ok = impl.NextStamp(c.stamps, 1)
		if c.next == 0 {
			wantNoNumber(t, payName("NextStamp", c.stamps, 1), n, ok)
		} else {
			wantNumber(t, payName("NextStamp", c.stamps, 1), n, ok, c.next)
		}
		needless, ok := impl.NeedlessStamps(c.stamps, 1)
		if len(c.stamps) == 1 {
			wantNoList(t, payName("NeedlessStamps", c.stamps, 1), needless, ok)
		} else {
			wantList(t, payName("NeedlessStamps", c.stamps, 1), needless, ok, c.needless)
		}
		way, ok := impl.FirstStamps(c.stamps, 1, slices.Max(c.stamps))
		wantList(t, payName("FirstStamps", c.stamps, 1), way, ok, c.last)
	}
}

func TestOneKind(t *testing.T) {
	for _, stamp := range []int{1, 2, 3, 100, 499, 500} {
		stamps := []int{stamp}
		for room := 1; room <= impl.MaxRoom; room++ {
			values := []int{}
			for n := range room + 1 {
				values = append(values, n*stamp)
				way, ok := impl.FirstStamps(stamps, room, n*stamp)
				wantList(t, payName("FirstStamps", stamps, room, n*stamp), way, ok, []int{n})
			}
			got, ok := impl.ValuesOf(stamps, room)
			wantList(t, payName("ValuesOf", stamps, room), got, ok, values)
			reach := 0
			if stamp == 1 {
				reach = room
			}
			n, ok := impl.ReachOf(stamps, room)
			wantNumber(t, payName("ReachOf", stamps, room), n, ok, reach)
			checkNeedless(t, stamps, room, reach)
			checkNext(t, stamps, room)
		}
		for value := range 4001 {
			n, ok := impl.FewestStamps(stamps, value)
			if value%stamp == 0 {
				wantNumber(t, payName("FewestStamps", stamps, value), n, ok, value/stamp)
			} else {
				wantNoNumber(t, payName("FewestStamps", stamps, value), n, ok)
			}
		}
	}
}

func TestMaxKindsOfStamps(t *testing.T) {
	stamps := []int{495, 496, 497, 498, 499, 500}
	if !impl.AreStamps(stamps) {
		t.Error("AreStamps of the greatest stamps")
	}
	for room := 1; room <= impl.MaxRoom; room++ {
		ways := waysByValue(stamps, room)
		values, ok := impl.ValuesOf(stamps, room)
		wantList(t, payName("ValuesOf", stamps, room), values, ok, slices.Sorted(maps.Keys(ways)))
		for value := room*495 - 2; value <= min(room*500+2, 4000); value++ {
			n, ok := impl.CountStampWays(stamps, room, value)
			wantNumber(t, payName("CountStampWays", stamps, room, value), n, ok, len(ways[value]))
		}
		n, ok := impl.NextStamp(stamps, room)
		wantNoNumber(t, payName("NextStamp of MaxKinds", stamps, room), n, ok)
		n, ok = impl.NextStamp([]int{1, 2, 3, 4, 5, 6}, room)
		wantNoNumber(t, payName("NextStamp of 1 to 6", nil, room), n, ok)
		n, ok = impl.ReachOf([]int{1, 2, 3, 4, 5, 6}, room)
		wantNumber(t, payName("ReachOf 1 to 6", nil, room), n, ok, 6*room)
	}
	way, ok := impl.FirstStamps(stamps, 8, 8*495)
	wantList(t, "FirstStamps of the least only", way, ok, []int{8, 0, 0, 0, 0, 0})
	way, ok = impl.FirstStamps(stamps, 8, 4000)
	wantList(t, "FirstStamps of the greatest only", way, ok, []int{0, 0, 0, 0, 0, 8})
	way, ok = impl.FirstStamps([]int{1, 2, 3, 4, 5, 6}, 8, 7)
	wantList(t, "FirstStamps of two", way, ok, []int{0, 0, 1, 1, 0, 0})
	needless, ok := impl.NeedlessStamps([]int{1, 2, 3, 4, 5, 6}, 8)
	wantList(t, "NeedlessStamps of 1 to 6", needless, ok, []int{2, 3, 4})
}

func TestLeastStampsThatAreNot1(t *testing.T) {
	for _, stamps := range [][]int{{2}, {2, 3}, {3, 5, 7}, {500}, {2, 3, 4, 5, 6, 7}} {
		for room := 1; room <= impl.MaxRoom; room++ {
			n, ok := impl.ReachOf(stamps, room)
			wantNumber(t, payName("ReachOf", stamps, room), n, ok, 0)
			n, ok = impl.NextStamp(stamps, room)
			wantNoNumber(t, payName("NextStamp", stamps, room), n, ok)
			if len(stamps) > 1 {
				needless, ok := impl.NeedlessStamps(stamps, room)
				wantList(t, payName("NeedlessStamps", stamps, room), needless, ok, stamps)
			}
			can, ok := impl.CanStamp(stamps, room, 1)
			wantBool(t, payName("CanStamp 1", stamps, room), can, ok, false)
		}
		n, ok := impl.RoomFor(stamps, 0)
		wantNumber(t, payName("RoomFor", stamps, 0), n, ok, 1)
		n, ok = impl.RoomFor(stamps, 1)
		wantNoNumber(t, payName("RoomFor", stamps, 1), n, ok)
		n, ok = impl.FewestStamps(stamps, 1)
		wantNoNumber(t, payName("FewestStamps", stamps, 1), n, ok)
	}
}

func TestTheValue0(t *testing.T) {
	for _, stamps := range [][]int{{1}, {500}, {2, 3}, {1, 2, 3, 4, 5, 6}} {
		for room := 1; room <= impl.MaxRoom; room++ {
			checkValue(t, stamps, room, 0, [][]int{make([]int, len(stamps))}, 0)
		}
		n, ok := impl.RoomFor(stamps, 0)
		wantNumber(t, payName("RoomFor", stamps, 0), n, ok, 1)
		values, ok := impl.ValuesWith(stamps, 0)
		wantList(t, payName("ValuesWith", stamps, 0), values, ok, []int{0})
	}
}

func TestTheGreatestValue(t *testing.T) {
	checkValue(t, []int{500}, 8, 4000, [][]int{{8}}, 8)
	checkValue(t, []int{500}, 7, 4000, nil, 8)
	checkValue(t, []int{1}, 8, 4000, nil, 4000)
	checkValue(t, []int{1, 500}, 8, 4000, [][]int{{0, 8}}, 8)
	checkValue(t, []int{1, 500}, 8, 3999, nil, 7+499)
	checkValue(t, []int{499}, 8, 4000, nil, -1)
	checkValue(t, []int{3}, 8, 4000, nil, -1)
	checkValue(t, []int{400, 500}, 8, 4000, [][]int{{0, 8}}, 8)
	checkValue(t, []int{499, 500}, 8, 8*499+3, [][]int{{5, 3}}, 8)
	checkValue(t, []int{3, 7}, 8, 4000, nil, 571+1)
	values, ok := impl.ValuesOf([]int{500}, 8)
	wantList(t, "ValuesOf 500", values, ok, []int{0, 500, 1000, 1500, 2000, 2500, 3000, 3500, 4000})
	for _, stamps := range [][]int{{1}, {500}, {1, 2, 3, 4, 5, 6}, {1, 499, 500}} {
		n, ok := impl.RoomFor(stamps, 4000)
		wantNoNumber(t, payName("RoomFor", stamps, 4000), n, ok)
	}
	for _, stamps := range [][]int{{1, 500}, {7, 30, 499}, {2, 499, 500}, {6, 10, 15}} {
		fewest := fewestByLetters(stamps, 4000)
		for value := 3900; value <= 4000; value++ {
			n, ok := impl.FewestStamps(stamps, value)
			wantNumber(t, payName("FewestStamps", stamps, value), n, ok, fewest[value])
		}
	}
}

func TestNextStampOfNamedStamps(t *testing.T) {
	for _, c := range []struct {
		stamps     []int
		room, next int
	}{
		{[]int{1}, 1, 2}, {[]int{1}, 2, 2}, {[]int{1}, 5, 4}, {[]int{1}, 8, 5}, {[]int{1, 2}, 1, 3}, {[]int{1, 3}, 1, 0}, {[]int{1, 3}, 2, 4}, {[]int{1, 5}, 2, 0},
		{[]int{1, 5}, 4, 8}, {[]int{1, 500}, 8, 0}, {[]int{2}, 8, 0}, {[]int{1, 9}, 8, 14}, {[]int{1, 10}, 8, 0}, {[]int{1, 2, 3, 4, 5}, 1, 6},
	} {
		n, ok := impl.NextStamp(c.stamps, c.room)
		if c.next == 0 {
			wantNoNumber(t, payName("NextStamp", c.stamps, c.room), n, ok)
		} else {
			wantNumber(t, payName("NextStamp", c.stamps, c.room), n, ok, c.next)
		}
	}
}

// The reach of some of these stamps is MaxStamp or more, so that stamps up to MaxStamp, and none behind it, are tried.
func TestNextStampUpToMaxStamp(t *testing.T) {
	for _, c := range []struct {
		stamps            []int
		reach, next, more int
	}{
		{[]int{1, 8, 21, 77, 121}, 498, 493, 870}, {[]int{1, 8, 11, 74, 113}, 500, 255, 834}, {[]int{1, 8, 21, 73, 98}, 500, 328, 878}, {[]int{1, 9, 15, 78, 115}, 512, 263, 832},
	} {
		n, ok := impl.ReachOf(c.stamps, 8)
		wantNumber(t, payName("ReachOf", c.stamps, 8), n, ok, c.reach)
		n, ok = impl.NextStamp(c.stamps, 8)
		wantNumber(t, payName("NextStamp", c.stamps, 8), n, ok, c.next)
		n, ok = impl.ReachOf(append(slices.Clone(c.stamps), c.next), 8)
		wantNumber(t, payName("ReachOf with the next", c.stamps, 8), n, ok, c.more)
		checkNext(t, c.stamps, 8)
	}
	for _, stamps := range [][]int{{1, 500}, {1, 499}, {1, 5, 40, 200, 500}, {1, 14, 73, 250, 499}} {
		n, ok := impl.NextStamp(stamps, 8)
		wantNoNumber(t, payName("NextStamp", stamps, 8), n, ok)
	}
}

func TestNeedlessStampsOfTwoKinds(t *testing.T) {
	for _, c := range []struct {
		stamps   []int
		room     int
		needless []int
	}{
		{[]int{1, 2}, 3, nil}, {[]int{1, 3}, 3, nil}, {[]int{1, 5}, 3, []int{5}}, {[]int{1, 4}, 3, nil}, {[]int{1, 500}, 8, []int{500}}, {[]int{1, 9}, 8, nil},
		{[]int{1, 10}, 8, []int{10}}, {[]int{2, 3}, 8, []int{2, 3}}, {[]int{499, 500}, 1, []int{499, 500}},
	} {
		needless, ok := impl.NeedlessStamps(c.stamps, c.room)
		wantList(t, payName("NeedlessStamps", c.stamps, c.room), needless, ok, c.needless)
	}
}

func TestValuesWithUpToMaxRoom(t *testing.T) {
	for _, stamps := range append(stampLists(), []int{495, 496, 497, 498, 499, 500}, []int{1, 500}, []int{500}) {
		for _, count := range []int{0, 1, 2, impl.MaxRoom - 1, impl.MaxRoom} {
			values, ok := impl.ValuesWith(stamps, count)
			wantList(t, payName("ValuesWith", stamps, count), values, ok, valuesOfJust(stamps, count))
		}
	}
}

func TestListsThatAreStamps(t *testing.T) {
	for _, stamps := range append(stampLists(), []int{500}, []int{499, 500}, []int{1, 500}, []int{1, 2, 3, 4, 5, 500}) {
		if !impl.AreStamps(stamps) {
			t.Error("AreStamps does not take", stamps)
		}
	}
}

func TestListsThatAreNoStamps(t *testing.T) {
	for _, stamps := range [][]int{
		nil, {}, {1, 2, 3, 4, 5, 6, 7}, repeated(1, 7), repeated(1, 5000), {2, 1}, {1, 3, 2}, {1, 1}, {1, 2, 2}, {2, 2, 3}, {500, 500},
		{0}, {0, 1}, {-1}, {-1, 1}, {501}, {1, 501}, {500, 501}, {1000}, {math.MinInt}, {math.MaxInt}, {math.MinInt, 1}, {1, math.MaxInt}, {math.MaxInt, math.MinInt},
	} {
		if impl.AreStamps(stamps) {
			t.Error("AreStamps takes", stamps[:min(len(stamps), 10)])
		}
		for _, room := range []int{1, 3, impl.MaxRoom} {
			wantNoStamping(t, stamps, room)
			for _, value := range []int{0, 1, 2, 7, 501, 4000} {
				wantNoValue(t, stamps, room, value)
			}
		}
		for count := range impl.MaxRoom + 1 {
			values, ok := impl.ValuesWith(stamps, count)
			wantNoList(t, payName("ValuesWith", stamps, count), values, ok)
		}
		for _, value := range []int{0, 1, 2, 501, 4000} {
			wantNoStampsFor(t, stamps, value)
		}
	}
}

// wantNoStamping checks that no function of stamps and a room tells anything.
func wantNoStamping(t *testing.T, stamps []int, room int) {
	t.Helper()
	n, ok := impl.ReachOf(stamps, room)
	wantNoNumber(t, payName("ReachOf", stamps, room), n, ok)
	n, ok = impl.NextStamp(stamps, room)
	wantNoNumber(t, payName("NextStamp", stamps, room), n, ok)
	list, ok := impl.ValuesOf(stamps, room)
	wantNoList(t, payName("ValuesOf", stamps, room), list, ok)
	list, ok = impl.NeedlessStamps(stamps, room)
	wantNoList(t, payName("NeedlessStamps", stamps, room), list, ok)
}

// wantNoValue checks that no function of stamps, a room and a value tells anything.
func wantNoValue(t *testing.T, stamps []int, room, value int) {
	t.Helper()
	can, ok := impl.CanStamp(stamps, room, value)
	wantNoBool(t, payName("CanStamp", stamps, room, value), can, ok)
	n, ok := impl.CountStampWays(stamps, room, value)
	wantNoNumber(t, payName("CountStampWays", stamps, room, value), n, ok)
	way, ok := impl.FirstStamps(stamps, room, value)
	wantNoList(t, payName("FirstStamps", stamps, room, value), way, ok)
}

func wantNoStampsFor(t *testing.T, stamps []int, value int) {
	t.Helper()
	n, ok := impl.FewestStamps(stamps, value)
	wantNoNumber(t, payName("FewestStamps", stamps, value), n, ok)
	n, ok = impl.RoomFor(stamps, value)
	wantNoNumber(t, payName("RoomFor", stamps, value), n, ok)
}

func TestRoomsThatAreNone(t *testing.T) {
	for _, stamps := range [][]int{{1}, {1, 3}, {2, 3}, {500}, {1, 2, 3, 4, 5, 6}} {
		for _, room := range []int{0, -1, -8, 9, 10, 64, 65, 4000, math.MinInt, math.MaxInt} {
			wantNoStamping(t, stamps, room)
			for _, value := range []int{0, 1, 3, 4000} {
				wantNoValue(t, stamps, room, value)
			}
		}
		for _, count := range []int{-1, -2, -8, 9, 10, 64, 65, math.MinInt, math.MaxInt} {
			values, ok := impl.ValuesWith(stamps, count)
			wantNoList(t, payName("ValuesWith", stamps, count), values, ok)
		}
	}
}

func TestValuesThatAreNone(t *testing.T) {
	for _, stamps := range [][]int{{1}, {1, 3}, {2, 3}, {500}, {1, 2, 3, 4, 5, 6}} {
		for _, value := range []int{-1, -2, -500, 4001, 4500, 200000, 1 << 62, math.MinInt, math.MaxInt} {
			for room := 1; room <= impl.MaxRoom; room++ {
				wantNoValue(t, stamps, room, value)
			}
			wantNoStampsFor(t, stamps, value)
		}
	}
}

func TestBestSetsThatAreNotAskedFor(t *testing.T) {
	for _, c := range [][2]int{
		{0, 1}, {0, 5}, {4, 1}, {4, 5}, {6, 3}, {-1, 3}, {1, 0}, {3, 0}, {1, 6}, {2, 6}, {3, 6}, {3, 8}, {1, -1}, {0, 0}, {4, 6},
		{math.MinInt, 3}, {math.MaxInt, 3}, {2, math.MinInt}, {2, math.MaxInt}, {math.MaxInt, math.MaxInt},
	} {
		n, ok := impl.BestReach(c[0], c[1])
		wantNoNumber(t, payName("BestReach", nil, c[0], c[1]), n, ok)
		n, ok = impl.CountBest(c[0], c[1])
		wantNoNumber(t, payName("CountBest", nil, c[0], c[1]), n, ok)
		list, ok := impl.FirstBest(c[0], c[1])
		wantNoList(t, payName("FirstBest", nil, c[0], c[1]), list, ok)
	}
}
