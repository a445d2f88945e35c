package tests

import (
	"math"
	"slices"
	"strconv"
	"strings"
	"testing"

	"loop.example/g01305/impl"
)

func chainName(name string, c chainCut) string {
	words := []string{}
	for _, cut := range c.cuts {
		words = append(words, strconv.Itoa(cut))
	}
	return named(name, c.links) + " at " + strings.Join(words, ",")
}

func TestChainExamples(t *testing.T) {
	list, ok := impl.PiecesOfCuts(7, []int{2})
	wantList(t, "PiecesOfCuts 7 at 2", list, ok, []int{1, 2, 4})
	list, ok = impl.PartsOfCuts(7, []int{2})
	wantList(t, "PartsOfCuts 7 at 2", list, ok, []int{2, 1, 4})
	pays, ok := impl.DoCutsPay(7, []int{2})
	wantBool(t, "DoCutsPay 7 at 2", pays, ok, true)
	for cuts, want := range []int{1, 7, 23, 63} {
		n, ok := impl.MostLinks(cuts)
		wantNumber(t, named("MostLinks", cuts), n, ok, want)
	}
	list, ok = impl.CutsForMost(2)
	wantList(t, "CutsForMost 2", list, ok, []int{3, 10})
	list, ok = impl.FirstCuts(7)
	wantList(t, "FirstCuts 7", list, ok, []int{2})
	pays, ok = impl.DoCutsPay(7, []int{4})
	wantBool(t, "DoCutsPay 7 at 4", pays, ok, true)
	n, ok := impl.CountCuts(7)
	wantNumber(t, "CountCuts 7", n, ok, 2)
	n, ok = impl.MostRing(1)
	wantNumber(t, "MostRing 1", n, ok, 3)
	list, ok = impl.RingPieces(3, []int{0})
	wantList(t, "RingPieces 3 at 0", list, ok, []int{1, 2})
	n, ok = impl.FewestToJoin([]int{3, 3, 3, 3, 3})
	wantNumber(t, "FewestToJoin five of three", n, ok, 3)
}

func TestPartsOfCutsAreThoseOfTheWalk(t *testing.T) {
	for _, c := range cutChains() {
		if !impl.AreCuts(c.links, c.cuts) {
			t.Error(chainName("AreCuts", c))
		}
		want := walkedParts(c.links, c.cuts)
		list, ok := impl.PartsOfCuts(c.links, c.cuts)
		wantList(t, chainName("PartsOfCuts", c), list, ok, want)
		slices.Sort(want)
		list, ok = impl.PiecesOfCuts(c.links, c.cuts)
		wantList(t, chainName("PiecesOfCuts", c), list, ok, want)
		if !impl.ArePieces(list) {
			t.Error(chainName("PiecesOfCuts are no pieces", c))
		}
	}
}

func TestCutsPayIfTheirRunIsAllLinks(t *testing.T) {
	paid := 0
	for _, c := range cutChains() {
		parts := walkedParts(c.links, c.cuts)
		run, ok := impl.RunOfCuts(c.links, c.cuts)
		wantNumber(t, chainName("RunOfCuts", c), run, ok, runBySearch(c.links, parts))
		pays, ok := impl.DoCutsPay(c.links, c.cuts)
		wantBool(t, chainName("DoCutsPay", c), pays, ok, paysBySearch(c.links, parts))
		wantBool(t, chainName("DoCutsPay by the run", c), pays, ok, run == c.links)
		needless, ok := impl.NeedlessCuts(c.links, c.cuts)
		if pays {
			paid++
			wantList(t, chainName("NeedlessCuts", c), needless, ok, needlessBySearch(c.links, c.cuts))
		} else {
			wantNoList(t, chainName("NeedlessCuts", c), needless, ok)
		}
	}
	if paid < 1000 {
		t.Error("too few of the cuts pay for a test:", paid)
	}
}

func TestMirrorCutsTellTheOtherEnd(t *testing.T) {
	for _, c := range cutChains() {
		want := []int{}
		for link := range c.links {
			if slices.Contains(c.cuts, c.links-1-link) {
				want = append(want, link)
			}
		}
		mirrored, ok := impl.MirrorCuts(c.links, c.cuts)
		wantList(t, chainName("MirrorCuts", c), mirrored, ok, want)
		back, ok := impl.MirrorCuts(c.links, mirrored)
		wantList(t, chainName("MirrorCuts twice", c), back, ok, c.cuts)
		parts, ok := impl.PartsOfCuts(c.links, mirrored)
		slices.Reverse(parts)
		wantList(t, chainName("PartsOfCuts of MirrorCuts", c), parts, ok, walkedParts(c.links, c.cuts))
	}
}

func TestRingPiecesAreThoseOfTheWalk(t *testing.T) {
	for _, c := range cutChains() {
		list, ok := impl.RingPieces(c.links, c.cuts)
		if len(c.cuts) == 0 {
			wantNoList(t, chainName("RingPieces", c), list, ok)
			continue
		}
		want := walkedRing(c.links, c.cuts)
		slices.Sort(want)
		wantList(t, chainName("RingPieces", c), list, ok, want)
	}
}

func TestFirstCutsAreAsFewAsTold(t *testing.T) {
	for links := 1; links <= impl.MaxLinked; links++ {
		want := payingBySearch(links, 0, walkedParts)
		n, ok := impl.FewestCuts(links)
		wantNumber(t, named("FewestCuts", links), n, ok, len(want[0]))
		list, ok := impl.FirstCuts(links)
		wantList(t, named("FirstCuts", links), list, ok, want[0])
		n, ok = impl.CountCuts(links)
		wantNumber(t, named("CountCuts", links), n, ok, len(want))
	}
	for _, links := range []int{64, 65, 1000, 1001, 100000, math.MaxInt, 0, -1, -63, math.MinInt} {
		list, ok := impl.FirstCuts(links)
		wantNoList(t, named("FirstCuts", links), list, ok)
		n, ok := impl.CountCuts(links)
		wantNoNumber(t, named("CountCuts", links), n, ok)
	}
}

func TestNoCutsPayMoreThanMostLinks(t *testing.T) {
	for cuts := range 3 {
		most, _ := impl.MostLinks(cuts)
		if n := len(payingBySearch(most, 0, walkedParts)[0]); n != cuts {
			t.Error("most links are paid with", n, "cuts, not with", cuts)
		}
		for links := most + 1; links <= most+4; links++ {
			eachCuts(links, cuts, func(list []int) {
				if paysBySearch(links, walkedParts(links, list)) {
					t.Error(chainName("more than MostLinks are paid", chainCut{links, list}))
				}
			})
		}
	}
}

func TestMostLinksAndMostRing(t *testing.T) {
	chains := []int{1, 7, 23, 63, 159, 383, 895, 2047, 4607, 10239}
	rings := []int{0, 3, 11, 31, 79, 191, 447, 1023, 2303, 5119}
	for cuts := range chains {
		n, ok := impl.MostLinks(cuts)
		wantNumber(t, named("MostLinks", cuts), n, ok, chains[cuts])
		n, ok = impl.FewestCuts(chains[cuts])
		wantNumber(t, named("FewestCuts", chains[cuts]), n, ok, cuts)
		n, ok = impl.FewestCuts(chains[cuts] + 1)
		wantNumber(t, named("FewestCuts", chains[cuts]+1), n, ok, cuts+1)
		if cuts == 0 {
			continue
		}
		n, ok = impl.MostRing(cuts)
		wantNumber(t, named("MostRing", cuts), n, ok, rings[cuts])
		n, ok = impl.FewestRingCuts(rings[cuts])
		wantNumber(t, named("FewestRingCuts", rings[cuts]), n, ok, cuts)
		n, ok = impl.FewestRingCuts(rings[cuts] + 1)
		wantNumber(t, named("FewestRingCuts", rings[cuts]+1), n, ok, cuts+1)
	}
	for _, cuts := range []int{-1, -2, 10, 11, 62, 63, 64, 1000, math.MinInt, math.MaxInt} {
		n, ok := impl.MostLinks(cuts)
		wantNoNumber(t, named("MostLinks", cuts), n, ok)
		n, ok = impl.MostRing(cuts)
		wantNoNumber(t, named("MostRing", cuts), n, ok)
	}
	n, ok := impl.MostRing(0)
	wantNoNumber(t, "MostRing 0", n, ok)
}

func TestFewestCutsOfManyLinks(t *testing.T) {
	for _, c := range []struct{ links, chain, ring int }{
		{1, 0, 1}, {2, 1, 1}, {3, 1, 1}, {4, 1, 2}, {1000, 7, 7}, {1001, 7, 7}, {10239, 9, 10}, {10240, 10, 10},
		{11263, 10, 10}, {11264, 10, 11}, {22527, 10, 11}, {22528, 11, 11}, {49151, 11, 12}, {49152, 12, 12},
		{53247, 12, 12}, {53248, 12, 13}, {99999, 12, 13}, {impl.MaxFew, 12, 13},
	} {
		n, ok := impl.FewestCuts(c.links)
		wantNumber(t, named("FewestCuts", c.links), n, ok, c.chain)
		n, ok = impl.FewestRingCuts(c.links)
		wantNumber(t, named("FewestRingCuts", c.links), n, ok, c.ring)
	}
	for _, links := range []int{0, -1, -7, impl.MaxFew + 1, math.MinInt, math.MaxInt} {
		n, ok := impl.FewestCuts(links)
		wantNoNumber(t, named("FewestCuts", links), n, ok)
		n, ok = impl.FewestRingCuts(links)
		wantNoNumber(t, named("FewestRingCuts", links), n, ok)
	}
}

func TestFewestRingCutsAreThoseOfTheSearch(t *testing.T) {
	for links := 1; links <= 34; links++ {
		n, ok := impl.FewestRingCuts(links)
		wantNumber(t, named("FewestRingCuts", links), n, ok, len(payingBySearch(links, 1, walkedRing)[0]))
	}
}

func TestCutsForMostPay(t *testing.T) {
	for cuts := 0; cuts <= 6; cuts++ {
		links, _ := impl.MostLinks(cuts)
		list, ok := impl.CutsForMost(cuts)
		if !ok || len(list) != cuts {
			t.Errorf("CutsForMost %d: got %v, %v", cuts, list, ok)
		}
		pays, ok := impl.DoCutsPay(links, list)
		wantBool(t, named("DoCutsPay of CutsForMost", cuts), pays, ok, true)
		needless, ok := impl.NeedlessCuts(links, list)
		wantList(t, named("NeedlessCuts of CutsForMost", cuts), needless, ok, nil)
		want := []int{cuts + 1}
		for i := range cuts {
			want = append(want, 1, want[2*i]*2)
		}
		parts, ok := impl.PartsOfCuts(links, list)
		wantList(t, named("PartsOfCuts of CutsForMost", cuts), parts, ok, want)
	}
	list, ok := impl.CutsForMost(3)
	wantList(t, "CutsForMost 3", list, ok, []int{4, 13, 30})
	for _, cuts := range []int{-1, 7, 8, 9, 10, 64, math.MinInt, math.MaxInt} {
		list, ok := impl.CutsForMost(cuts)
		wantNoList(t, named("CutsForMost", cuts), list, ok)
	}
}

func TestChainsOfNamedLengths(t *testing.T) {
	for _, c := range []struct {
		chain  chainCut
		parts  []int
		run    int
		ring   []int
		mirror []int
	}{
		{chainCut{1, nil}, []int{1}, 1, nil, nil},
		{chainCut{1, []int{0}}, []int{1}, 1, []int{1}, []int{0}},
		{chainCut{2, []int{0, 1}}, []int{1, 1}, 2, []int{1, 1}, []int{0, 1}},
		{chainCut{9, []int{0, 1, 2, 3, 4, 5, 6, 7, 8}}, repeated(1, 9), 9, repeated(1, 9), []int{0, 1, 2, 3, 4, 5, 6, 7, 8}},
		{chainCut{8, []int{0, 7}}, []int{1, 6, 1}, 2, []int{1, 1, 6}, []int{0, 7}},
		{chainCut{9, []int{4, 5}}, []int{4, 1, 1, 3}, 9, []int{1, 1, 7}, []int{3, 4}},
		{chainCut{63, []int{4, 13, 30}}, []int{4, 1, 8, 1, 16, 1, 32}, 63, []int{1, 1, 1, 8, 16, 36}, []int{32, 49, 58}},
		{chainCut{1000, nil}, []int{1000}, 0, nil, nil},
		{chainCut{1000, []int{0, 999}}, []int{1, 998, 1}, 2, []int{1, 1, 998}, []int{0, 999}},
		{chainCut{1000, []int{1, 3, 7, 16, 33, 66, 131, 260, 517}}, []int{1, 1, 1, 1, 3, 1, 8, 1, 16, 1, 32, 1, 64, 1, 128, 1, 256, 1, 482}, 1000,
			[]int{1, 1, 1, 1, 1, 1, 1, 1, 1, 1, 3, 8, 16, 32, 64, 128, 256, 483}, []int{482, 739, 868, 933, 966, 983, 992, 996, 998}},
	} {
		links, cuts := c.chain.links, c.chain.cuts
		list, ok := impl.PartsOfCuts(links, cuts)
		wantList(t, chainName("PartsOfCuts", c.chain), list, ok, c.parts)
		n, ok := impl.RunOfCuts(links, cuts)
		wantNumber(t, chainName("RunOfCuts", c.chain), n, ok, c.run)
		pays, ok := impl.DoCutsPay(links, cuts)
		wantBool(t, chainName("DoCutsPay", c.chain), pays, ok, c.run == links)
		list, ok = impl.MirrorCuts(links, cuts)
		wantList(t, chainName("MirrorCuts", c.chain), list, ok, c.mirror)
		list, ok = impl.RingPieces(links, cuts)
		if c.ring == nil {
			wantNoList(t, chainName("RingPieces", c.chain), list, ok)
		} else {
			wantList(t, chainName("RingPieces", c.chain), list, ok, c.ring)
		}
	}
}

func TestNeedlessCutsOfNamedChains(t *testing.T) {
	for _, c := range []struct {
		chain chainCut
		want  []int
	}{
		{chainCut{1, nil}, nil},
		{chainCut{1, []int{0}}, []int{0}},
		{chainCut{2, []int{0}}, nil},
		{chainCut{2, []int{0, 1}}, []int{0, 1}},
		{chainCut{7, []int{2}}, nil},
		{chainCut{7, []int{2, 4}}, []int{0, 1}},
		{chainCut{7, []int{0, 2}}, []int{0}},
		{chainCut{7, []int{0, 1, 2}}, []int{0, 1}},
	} {
		list, ok := impl.NeedlessCuts(c.chain.links, c.chain.cuts)
		wantList(t, chainName("NeedlessCuts", c.chain), list, ok, c.want)
	}
	for _, c := range []chainCut{{2, nil}, {7, []int{0}}, {7, []int{3}}, {1000, nil}, {1000, []int{0, 1, 2, 3, 4, 5, 6, 7, 8}}} {
		list, ok := impl.NeedlessCuts(c.links, c.cuts)
		wantNoList(t, chainName("NeedlessCuts", c), list, ok)
	}
}

func TestListsThatAreNoCuts(t *testing.T) {
	none := []chainCut{
		{0, nil}, {-1, nil}, {1001, nil}, {0, []int{0}}, {-1, []int{0}}, {1001, []int{1000}}, {1001, []int{0}}, {math.MinInt, nil}, {math.MaxInt, nil},
		{math.MinInt, []int{math.MinInt}}, {math.MaxInt, []int{5}}, {1, []int{1}}, {7, []int{7}}, {7, []int{-1}}, {7, []int{2, 1}}, {7, []int{1, 3, 2}},
		{7, []int{2, 2}}, {7, []int{0, 0}}, {7, []int{2, 7}}, {7, []int{-1, 2}}, {7, []int{math.MaxInt}}, {7, []int{math.MinInt}},
		{7, []int{math.MaxInt, math.MinInt}}, {7, []int{3, math.MaxInt, 4}}, {1000, []int{1000}}, {10, []int{0, 1, 2, 3, 4, 5, 6, 7, 8, 9}},
		{1000, []int{0, 10, 20, 30, 40, 50, 60, 70, 80, 90}}, {1000, repeated(5, 5000)},
	}
	for _, c := range none {
		if impl.AreCuts(c.links, c.cuts) {
			t.Error("AreCuts", c.links, c.cuts[:min(len(c.cuts), 20)])
		}
		for name, f := range cutFunctions() {
			list, ok := f(c.links, c.cuts)
			wantNoList(t, named(name, c.links), list, ok)
		}
		pays, ok := impl.DoCutsPay(c.links, c.cuts)
		wantNoBool(t, named("DoCutsPay", c.links), pays, ok)
		n, ok := impl.RunOfCuts(c.links, c.cuts)
		wantNoNumber(t, named("RunOfCuts", c.links), n, ok)
	}
}

func cutFunctions() map[string]func(int, []int) ([]int, bool) {
	return map[string]func(int, []int) ([]int, bool){
		"PartsOfCuts": impl.PartsOfCuts, "PiecesOfCuts": impl.PiecesOfCuts, "MirrorCuts": impl.MirrorCuts,
		"NeedlessCuts": impl.NeedlessCuts, "RingPieces": impl.RingPieces,
	}
}

func TestFewestToJoinIsThatOfTheSearch(t *testing.T) {
	var try func(chains []int)
	try = func(chains []int) {
		if len(chains) > 0 {
			n, ok := impl.FewestToJoin(chains)
			wantNumber(t, chainName("FewestToJoin", chainCut{len(chains), chains}), n, ok, joinsBySearch(chains))
		}
		for links := 1; totalOf(chains)+links <= 11; links++ {
			try(append(slices.Clone(chains), links))
		}
	}
	try(nil)
}

func TestFewestToJoinAtItsLimits(t *testing.T) {
	for _, c := range []struct {
		chains []int
		want   int
	}{
		{[]int{1}, 0}, {[]int{100}, 0}, {[]int{1, 1}, 1}, {[]int{100, 100}, 1}, {repeated(1, 12), 6}, {repeated(100, 12), 11},
		{[]int{100, 1, 100}, 1}, {[]int{3, 100, 4, 100, 100}, 3}, {[]int{12, 2, 9, 2, 30, 2, 6, 1, 50, 8, 5, 100}, 7},
	} {
		n, ok := impl.FewestToJoin(c.chains)
		wantNumber(t, chainName("FewestToJoin", chainCut{len(c.chains), c.chains}), n, ok, c.want)
	}
	for _, chains := range [][]int{nil, {}, {0}, {-1}, {101}, {3, 0}, {0, 3}, {3, 101, 3}, {math.MinInt}, {math.MaxInt, math.MaxInt}, repeated(1, 13), repeated(100, 13)} {
		n, ok := impl.FewestToJoin(chains)
		wantNoNumber(t, chainName("FewestToJoin", chainCut{len(chains), chains}), n, ok)
	}
}
