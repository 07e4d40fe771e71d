package tests

import (
	"math"
	"slices"
	"testing"

	"loop.example/helpersinreach/impl"
)

// noHouses are no numbers of houses, and wrongRivals no numbers of shops that may be at rest.
var (
	noHouses    = []int{0, -1, -2, impl.MaxStreet + 1, impl.MaxStreet + 2, 1000, math.MinInt, math.MinInt + 1, math.MaxInt}
	wrongRivals = []int{1, 0, -1, -2, impl.MaxShops + 1, impl.MaxShops + 2, 1000, math.MinInt, math.MaxInt}
)

// notMalls are streets with no shops that may be there, each for one reason.
var notMalls = []mall{
	// No shop, and too many of them.
	{5, nil}, {5, []int{}}, {1, nil}, {1, []int{0, 0, 0, 0, 0}}, {5, []int{0, 1, 2, 3, 4}}, {9, make([]int, 1000)},
	// No house there, alone, first, within and last.
	{5, []int{-1}}, {5, []int{5}}, {1, []int{1}}, {1, []int{-1}}, {5, []int{-1, 2, 3}}, {5, []int{2, -1, 3}}, {5, []int{2, 5, 3}}, {5, []int{2, 3, 5}}, {5, []int{2, 3, -1}}, {4, []int{0, 1, 2, 4}}, {9, []int{9}}, {9, []int{0, 0, 0, 9}},
	{5, []int{math.MinInt}}, {5, []int{math.MaxInt}}, {5, []int{0, math.MaxInt}}, {5, []int{math.MinInt, 0}},
	// Not in order.
	{5, []int{1, 0}}, {5, []int{3, 2}}, {5, []int{0, 2, 1}}, {5, []int{2, 1, 3}}, {5, []int{0, 1, 3, 2}}, {5, []int{1, 0, 0, 0}}, {9, []int{8, 0}},
}

// checkNoMall checks that all functions of a street with shops tell that these are invalid.
func checkNoMall(t *testing.T, m mall) {
	t.Helper()
	if impl.ValidShops(m.n, m.shops) {
		t.Errorf("ValidShops(%v) is true", m)
	}
	if got := impl.SharesOf(m.n, m.shops); got != nil {
		t.Errorf("SharesOf(%v) = %v", m, got)
	}
	if got := impl.BestPlace(m.n, m.shops); got != -1 {
		t.Errorf("BestPlace(%v) = %d", m, got)
	}
	if impl.IsRest(m.n, m.shops) {
		t.Errorf("IsRest(%v) is true", m)
	}
}

func TestShopConstants(t *testing.T) {
	if impl.MaxStreet != 9 || impl.MaxShops != 4 {
		t.Error("limits of shops")
	}
}

// All lists of numbers in and beside short streets are shops just if they are by each two of them; all other functions hold to this.
func TestValidShops(t *testing.T) {
	for n := range 4 {
		for long := range impl.MaxShops + 2 {
			for _, list := range listsOfSpots(-1, n, long) {
				m := mall{n, list}
				if got := impl.ValidShops(n, list); got != m.isMall() {
					t.Fatalf("ValidShops(%v) = %v", m, got)
				}
				if !m.isMall() {
					checkNoMall(t, m)
				}
			}
		}
	}
	for _, m := range allMalls() {
		if !impl.ValidShops(m.n, m.shops) {
			t.Fatalf("ValidShops(%v) is false", m)
		}
	}
}

func TestNoMalls(t *testing.T) {
	for _, m := range notMalls {
		checkNoMall(t, m)
	}
	for _, n := range noHouses {
		for _, shops := range [][]int{nil, {}, {-1}, {0}, {0, 0}, {0, 1}, {4, 4}, {4, 5}, {0, 0, 0}, {0, 0, 0, 0}} {
			checkNoMall(t, mall{n, shops})
		}
		for k := range impl.MaxShops + 1 {
			if got := impl.RestsOf(n, k); got != nil {
				t.Errorf("RestsOf(%d, %d) = %v", n, k, got)
			}
		}
	}
}

// As many shops as may be leave no place for one more, one shop has no other one to rest beside, and not all numbers may be listed.
func TestTooManyOrFewShops(t *testing.T) {
	for _, m := range mallsOf(impl.MaxShops, impl.MaxShops) {
		if got := impl.BestPlace(m.n, m.shops); got != -1 {
			t.Fatalf("BestPlace(%v) = %d", m, got)
		}
	}
	for _, m := range mallsOf(1, 1) {
		if impl.IsRest(m.n, m.shops) {
			t.Errorf("IsRest(%v) is true", m)
		}
	}
	for n := 1; n <= impl.MaxStreet; n++ {
		if got := impl.BestPlace(n, nil); got != -1 {
			t.Errorf("BestPlace(%d, nil) = %d", n, got)
		}
		for _, k := range wrongRivals {
			if got := impl.RestsOf(n, k); got != nil {
				t.Errorf("RestsOf(%d, %d) = %v", n, k, got)
			}
		}
	}
}

func TestShopSharesByHand(t *testing.T) {
	for _, c := range []struct {
		m      mall
		shares []int
	}{
		// One house.
		{mall{1, []int{0}}, []int{12}}, {mall{1, []int{0, 0}}, []int{6, 6}}, {mall{1, []int{0, 0, 0}}, []int{4, 4, 4}}, {mall{1, []int{0, 0, 0, 0}}, []int{3, 3, 3, 3}},
		// One shop, and two, also with a house between both of them.
		{mall{9, []int{0}}, []int{108}}, {mall{9, []int{4}}, []int{108}}, {mall{2, []int{0, 1}}, []int{12, 12}}, {mall{3, []int{0, 1}}, []int{12, 24}}, {mall{3, []int{0, 2}}, []int{18, 18}}, {mall{5, []int{1, 3}}, []int{30, 30}}, {mall{5, []int{0, 4}}, []int{30, 30}}, {mall{5, []int{0, 1}}, []int{12, 48}}, {mall{5, []int{2, 2}}, []int{30, 30}}, {mall{9, []int{0, 8}}, []int{54, 54}}, {mall{9, []int{2, 5}}, []int{48, 60}},
		// Three and four, of which some are at one place, or as near to one house.
		{mall{3, []int{1, 1, 1}}, []int{12, 12, 12}}, {mall{4, []int{0, 1, 3}}, []int{12, 18, 18}}, {mall{5, []int{0, 0, 4}}, []int{16, 16, 28}}, {mall{5, []int{1, 1, 3, 3}}, []int{15, 15, 15, 15}}, {mall{9, []int{4, 4, 4, 4}}, []int{27, 27, 27, 27}}, {mall{4, []int{0, 1, 2, 3}}, []int{12, 12, 12, 12}}, {mall{3, []int{0, 0, 0, 2}}, []int{7, 7, 7, 15}},
	} {
		if got := impl.SharesOf(c.m.n, c.m.shops); !slices.Equal(got, c.shares) {
			t.Errorf("SharesOf(%v) = %v, not %v", c.m, got, c.shares)
		}
	}
}

func TestBestPlacesByHand(t *testing.T) {
	for _, c := range []struct {
		m    mall
		best int
	}{
		{mall{1, []int{0}}, 0}, {mall{1, []int{0, 0, 0}}, 0}, {mall{5, []int{2}}, 2}, {mall{4, []int{0}}, 1}, {mall{4, []int{3}}, 2}, {mall{9, []int{4}}, 4}, {mall{9, []int{3}}, 4},
		// The first one of several that are as good: those between the ends, both ends, both middles, and both sides of the middle.
		{mall{9, []int{0, 8}}, 1}, {mall{2, []int{0}}, 0}, {mall{2, []int{1}}, 0}, {mall{4, []int{1}}, 1}, {mall{4, []int{2}}, 1}, {mall{5, []int{2, 2}}, 1}, {mall{2, []int{0, 1}}, 0}, {mall{9, []int{4, 4, 4}}, 3},
	} {
		if got := impl.BestPlace(c.m.n, c.m.shops); got != c.best {
			t.Errorf("BestPlace(%v) = %d, not %d", c.m, got, c.best)
		}
	}
}

func TestRestsByHand(t *testing.T) {
	for _, c := range []struct {
		m    mall
		rest bool
	}{
		// One house, two shops in the middle, and beside it.
		{mall{1, []int{0, 0}}, true}, {mall{1, []int{0, 0, 0}}, true}, {mall{1, []int{0, 0, 0, 0}}, true}, {mall{1, []int{0}}, false},
		{mall{2, []int{0, 0}}, true}, {mall{2, []int{0, 1}}, true}, {mall{5, []int{2, 2}}, true}, {mall{5, []int{1, 3}}, false}, {mall{5, []int{1, 2}}, false}, {mall{5, []int{2, 3}}, false}, {mall{5, []int{1, 1}}, false}, {mall{4, []int{1, 1}}, true}, {mall{4, []int{1, 2}}, true}, {mall{4, []int{2, 2}}, true}, {mall{4, []int{0, 1}}, false}, {mall{4, []int{0, 3}}, false}, {mall{9, []int{4, 4}}, true}, {mall{9, []int{3, 5}}, false}, {mall{5, []int{2}}, false},
		// Three, and four of which two are at each of two places.
		{mall{2, []int{0, 0, 0}}, false}, {mall{2, []int{0, 0, 1}}, true}, {mall{3, []int{1, 1, 1}}, true}, {mall{3, []int{0, 1, 2}}, true}, {mall{3, []int{0, 0, 2}}, false}, {mall{4, []int{1, 1, 1}}, false}, {mall{4, []int{1, 1, 2}}, true}, {mall{5, []int{1, 2, 3}}, false}, {mall{5, []int{1, 1, 3, 3}}, true}, {mall{5, []int{2, 2, 2, 2}}, false}, {mall{9, []int{2, 2, 6, 6}}, true}, {mall{9, []int{1, 1, 7, 7}}, false},
	} {
		if got := impl.IsRest(c.m.n, c.m.shops); got != c.rest {
			t.Errorf("IsRest(%v) = %v", c.m, got)
		}
	}
}

func TestListsOfRestsByHand(t *testing.T) {
	for _, c := range []struct {
		n, k  int
		rests [][]int
	}{
		{1, 2, [][]int{{0, 0}}}, {1, 3, [][]int{{0, 0, 0}}}, {1, 4, [][]int{{0, 0, 0, 0}}},
		{2, 2, [][]int{{0, 0}, {0, 1}, {1, 1}}}, {3, 2, [][]int{{1, 1}}}, {4, 2, [][]int{{1, 1}, {1, 2}, {2, 2}}}, {9, 2, [][]int{{4, 4}}},
		{2, 3, [][]int{{0, 0, 1}, {0, 1, 1}}}, {3, 3, [][]int{{0, 1, 1}, {0, 1, 2}, {1, 1, 1}, {1, 1, 2}}}, {4, 3, [][]int{{1, 1, 2}, {1, 2, 2}}}, {5, 3, nil}, {9, 3, nil},
		{2, 4, [][]int{{0, 0, 1, 1}}}, {5, 4, [][]int{{1, 1, 3, 3}}}, {9, 4, [][]int{{2, 2, 6, 6}}},
	} {
		if got := impl.RestsOf(c.n, c.k); !sameRows(got, c.rests) {
			t.Errorf("RestsOf(%d, %d) = %v, not %v", c.n, c.k, got, c.rests)
		}
	}
}

// Promise 53.
func TestMallsMayBeTurned(t *testing.T) {
	for _, m := range allMalls() {
		if other := m.turnedRound(); !impl.ValidShops(other.n, other.shops) {
			t.Fatalf("ValidShops(%v) is false, but not of %v", other, m)
		}
	}
}

// Promise 54, and that shares are those of all houses.
func TestAllHousesAreShared(t *testing.T) {
	for _, m := range allMalls() {
		shares := impl.SharesOf(m.n, m.shops)
		if !slices.Equal(shares, m.sharesByHouses()) || peopleOf(shares) != 12*m.n {
			t.Fatalf("SharesOf(%v) = %v, not %v", m, shares, m.sharesByHouses())
		}
		other := m.turnedRound()
		if got := impl.SharesOf(other.n, other.shops); !slices.Equal(got, otherWay(shares)) {
			t.Fatalf("SharesOf(%v) = %v, of %v %v", m, shares, other, got)
		}
	}
}

// Promise 55, and that no place ahead of the best one is as good.
func TestNoPlaceIsBetter(t *testing.T) {
	for _, m := range mallsOf(1, impl.MaxShops-1) {
		shares := m.sharesOfOneMore()
		best := impl.BestPlace(m.n, m.shops)
		if best != slices.Index(shares, slices.Max(shares)) {
			t.Fatalf("BestPlace(%v) = %d, of shares %v", m, best, shares)
		}
		if got := mostOfNew(m, best); got != slices.Max(shares) {
			t.Fatalf("BestPlace(%v) = %d, where SharesOf is %d, of shares %v", m, best, got, shares)
		}
	}
}

// mostOfNew returns what SharesOf tells of one more shop at a place.
func mostOfNew(m mall, place int) int {
	shops := append(slices.Clone(m.shops), place)
	slices.Sort(shops)
	return impl.SharesOf(m.n, shops)[slices.Index(shops, place)]
}

// Promise 56, and that shops rest just if none has more at any other place.
func TestRestsAreRestsFromTheOtherEnd(t *testing.T) {
	for _, m := range mallsOf(2, impl.MaxShops) {
		rest, other := impl.IsRest(m.n, m.shops), m.turnedRound()
		if rest != m.restsByMoves() || rest != impl.IsRest(other.n, other.shops) {
			t.Fatalf("IsRest(%v) = %v, of %v %v", m, rest, other, impl.IsRest(other.n, other.shops))
		}
		middle := func(place int) bool { return place == m.n/2 || place == (m.n-1)/2 }
		if len(m.shops) == 2 && rest != (middle(m.shops[0]) && middle(m.shops[1])) {
			t.Fatalf("IsRest(%v) = %v", m, rest)
		}
	}
}

// Promise 57, and that all lists at rest are there, in order.
func TestRestsAreListed(t *testing.T) {
	for n := 1; n <= impl.MaxStreet; n++ {
		for k := 2; k <= impl.MaxShops; k++ {
			rests := impl.RestsOf(n, k)
			for _, shops := range rests {
				if len(shops) != k || !impl.IsRest(n, shops) {
					t.Fatalf("RestsOf(%d, %d) = %v", n, k, rests)
				}
			}
			if want := restsOfAll(n, k); !sameRows(rests, want) {
				t.Fatalf("RestsOf(%d, %d) = %v, not %v", n, k, rests, want)
			}
		}
		if got, want := len(impl.RestsOf(n, 2)), 3-n%2*2; got != want {
			t.Errorf("RestsOf(%d, 2) has %d lists, not %d", n, got, want)
		}
	}
}

// Promise 78, also of more shops at one place.
func TestOneShopHasAll(t *testing.T) {
	for n := 1; n <= impl.MaxStreet; n++ {
		for place := range n {
			for k := 1; k <= impl.MaxShops; k++ {
				got := impl.SharesOf(n, slices.Repeat([]int{place}, k))
				if !slices.Equal(got, slices.Repeat([]int{12 * n / k}, k)) {
					t.Errorf("SharesOf %d shops at %d of %d are %v", k, place, n, got)
				}
			}
		}
	}
}

// Promise 79, and that three rest in one place in the middle of fewer houses, where these are odd.
func TestThreeShopsDoNotRest(t *testing.T) {
	for n := 1; n <= impl.MaxStreet; n++ {
		found := 0
		for _, shops := range impl.RestsOf(n, 3) {
			if different(shops) == 1 {
				found++
			}
		}
		if rest := n == 1 || n == 3; rest != (found > 0) {
			t.Errorf("RestsOf(%d, 3) has %d lists of three in one place", n, found)
		}
	}
}

// The conventions: shops are not modified, also not behind their end, results are new memory and do not change from call to call.
func TestShopsKeepNothing(t *testing.T) {
	memory := []int{1, 1, 3, 3, 77, 88}
	for range 20 {
		for k := 1; k <= impl.MaxShops; k++ {
			m := mall{5, memory[:k]}
			if shares := impl.SharesOf(m.n, m.shops); !slices.Equal(shares, m.sharesByHouses()) {
				t.Fatalf("SharesOf(%v) = %v", m, shares)
			}
			impl.BestPlace(m.n, m.shops)
			impl.IsRest(m.n, m.shops)
			if !slices.Equal(memory, []int{1, 1, 3, 3, 77, 88}) {
				t.Fatalf("the shops have become %v", memory)
			}
		}
		rests, again := impl.RestsOf(4, 3), impl.RestsOf(4, 3)
		if want := [][]int{{1, 1, 2}, {1, 2, 2}}; !sameRows(rests, want) || !sameRows(again, want) {
			t.Fatalf("RestsOf(4, 3) = %v, then %v", rests, again)
		}
		checkOwnMemory(t, slices.Concat(rests, again, [][]int{impl.SharesOf(5, memory[:2]), impl.SharesOf(5, memory[:2])}))
	}
}
