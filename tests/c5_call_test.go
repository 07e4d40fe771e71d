package tests

import (
	"math"
	"slices"
	"testing"

	"loop.example/helpersinreach/impl"
)

// byCalls are the functions of helpers and calls that return a way.
var byCalls = map[string]func(int, int, []int) int{"WayAhead": impl.WayAhead, "WayGreedy": impl.WayGreedy, "WayBoth": impl.WayBoth}

// notStands are places where two helpers do not stand, each for one reason.
var notStands = [][2]int{
	{1, 0}, {50, 49}, {-1, 0}, {-1, -1}, {-2, -1}, {-1, 50}, {0, 51}, {50, 51}, {51, 51}, {51, 52}, {-1, 51}, {51, 50}, {0, -1},
	{math.MinInt, 0}, {0, math.MinInt}, {math.MinInt, math.MinInt}, {0, math.MaxInt}, {math.MaxInt, math.MaxInt}, {math.MinInt, math.MaxInt}, {math.MaxInt, math.MinInt},
}

// notCalls are no calls, each for one reason.
var notCalls = [][]int{
	{-1}, {51}, {0, -1}, {51, 50}, {0, 51, 0}, {0, 50, 0, 50, 0, 50, 0, -1}, {0, 50, 0, 50, 0, 50, 0, 51}, {51, 0, 0, 0, 0, 0, 0, 0},
	{math.MinInt}, {math.MaxInt}, {math.MaxInt, math.MinInt}, make([]int, impl.MaxCalls+1), slices.Repeat([]int{50}, impl.MaxCalls+1), make([]int, 1000),
}

// notJourneys are helpers that do not stand so, or calls that are none.
func notJourneys() []journey {
	all := []journey{}
	for _, both := range notStands {
		all = append(all, journey{both[0], both[1], nil}, journey{both[0], both[1], []int{0, 50}})
	}
	for _, calls := range notCalls {
		all = append(all, journey{0, 50, calls}, journey{0, 0, calls}, journey{50, 50, calls}, journey{2, 1, calls})
	}
	return all
}

func TestCallConstants(t *testing.T) {
	if impl.MaxCalls != 8 {
		t.Error("limits of calls")
	}
}

func TestValidCalls(t *testing.T) {
	most := slices.Repeat([]int{impl.MaxPlace}, impl.MaxCalls)
	for _, j := range append(manyJourneys(), journey{0, 50, []int{}}, journey{0, 0, most}, journey{50, 50, make([]int, impl.MaxCalls)}, journey{0, 50, []int{50, 0}}) {
		if !impl.ValidCalls(j.a, j.b, j.calls) {
			t.Fatalf("ValidCalls(%v) is false", j)
		}
	}
	for _, j := range notJourneys() {
		if impl.ValidCalls(j.a, j.b, j.calls) {
			t.Errorf("ValidCalls(%v) is true", j)
		}
	}
}

func TestNotCalls(t *testing.T) {
	for _, j := range notJourneys() {
		for name, f := range byCalls {
			if got := f(j.a, j.b, j.calls); got != -1 {
				t.Errorf("%s(%v) = %d", name, j, got)
			}
		}
		if got := impl.StandBoth(j.a, j.b, j.calls); got != nil {
			t.Errorf("StandBoth(%v) = %v", j, got)
		}
		for _, end := range [][2]int{{0, 0}, {0, 50}, {50, 50}, {1, 0}} {
			if got := impl.WorkOf(j.a, j.b, j.calls, end[0], end[1]); got != -1 {
				t.Errorf("WorkOf(%v, %v) = %d", j, end, got)
			}
		}
	}
}

func TestWrongEndsOfWork(t *testing.T) {
	for _, j := range []journey{{0, 0, nil}, {0, 50, nil}, {50, 50, []int{50}}, {3, 9, []int{1, 2, 3, 4, 5, 6, 7, 8}}} {
		for _, end := range notStands {
			if got := impl.WorkOf(j.a, j.b, j.calls, end[0], end[1]); got != -1 {
				t.Errorf("WorkOf(%v, %v) = %d", j, end, got)
			}
		}
	}
}

// Promise 26.
func TestCallsOnALineMayBeFewer(t *testing.T) {
	for _, j := range manyJourneys() {
		for calls := range len(j.calls) + 1 {
			if !impl.ValidCalls(j.a, j.b, j.calls[:calls]) {
				t.Fatalf("ValidCalls(%d, %d, %v) is false", j.a, j.b, j.calls[:calls])
			}
		}
	}
}

func TestCallsByHand(t *testing.T) {
	for _, c := range []struct {
		j                   journey
		ahead, greedy, both int
		low, high           int
	}{
		// No calls, and calls where one stands.
		{journey{0, 50, nil}, 0, 0, 0, 0, 50}, {journey{7, 7, []int{}}, 0, 0, 0, 7, 7}, {journey{3, 8, []int{3, 8, 8, 3}}, 0, 0, 0, 3, 8}, {journey{9, 9, []int{9, 9}}, 0, 0, 0, 9, 9},
		// Calls outside of both: the other one stays.
		{journey{10, 20, []int{4}}, 6, 6, 6, 4, 20}, {journey{10, 20, []int{27}}, 7, 7, 7, 10, 27}, {journey{10, 20, []int{0, 50}}, 40, 40, 40, 0, 50}, {journey{10, 20, []int{21, 30, 9, 0}}, 20, 20, 20, 0, 30},
		// Both at one place: one goes, and the other one stays.
		{journey{5, 5, []int{7}}, 2, 2, 2, 5, 7}, {journey{5, 5, []int{2}}, 3, 3, 3, 2, 5}, {journey{5, 5, []int{2, 5, 9}}, 7, 7, 7, 2, 9}, {journey{0, 0, []int{50}}, 50, 50, 50, 0, 50}, {journey{50, 50, []int{0}}, 50, 50, 50, 0, 50},
		// Calls between both: nearer to the lower one, to the other one, and in the middle, where both meet.
		{journey{0, 10, []int{3}}, 3, 3, 6, 3, 7}, {journey{0, 10, []int{8}}, 2, 2, 4, 2, 8}, {journey{0, 10, []int{5}}, 5, 5, 10, 5, 5}, {journey{0, 9, []int{4}}, 4, 4, 8, 4, 5}, {journey{0, 9, []int{5}}, 4, 4, 8, 4, 5},
		// In the middle the lower one goes: the next call shows it.
		{journey{0, 10, []int{5, 0}}, 5, 10, 15, 0, 5}, {journey{0, 10, []int{5, 10}}, 5, 5, 15, 5, 10},
		// The nearer one goes past the other one, which is the lower one from then on.
		{journey{5, 10, []int{12, 11}}, 3, 3, 4, 6, 11}, {journey{4, 4, []int{6, 7, 5}}, 4, 4, 5, 5, 6},
		// Who knows sends the farther one to the first call, where the nearer one would go to and fro.
		{journey{0, 50, []int{20, 0, 20, 0, 20, 0, 20, 0}}, 30, 160, 90, 0, 20}, {journey{0, 50, []int{24, 1, 24, 1}}, 27, 93, 77, 1, 24},
	} {
		ahead, greedy, both := impl.WayAhead(c.j.a, c.j.b, c.j.calls), impl.WayGreedy(c.j.a, c.j.b, c.j.calls), impl.WayBoth(c.j.a, c.j.b, c.j.calls)
		if ahead != c.ahead || greedy != c.greedy || both != c.both {
			t.Errorf("ways of %v = %d, %d, %d, not %d, %d, %d", c.j, ahead, greedy, both, c.ahead, c.greedy, c.both)
		}
		if end := impl.StandBoth(c.j.a, c.j.b, c.j.calls); !slices.Equal(end, []int{c.low, c.high}) {
			t.Errorf("StandBoth(%v) = %v, not %d and %d", c.j, end, c.low, c.high)
		}
	}
}

func TestWorkByHand(t *testing.T) {
	for _, c := range []struct {
		j          journey
		x, y, work int
	}{
		// Without calls both go straight to their ends, also past where the other one stood.
		{journey{0, 50, nil}, 0, 50, 0}, {journey{3, 8, nil}, 3, 8, 0}, {journey{3, 8, nil}, 8, 8, 5}, {journey{3, 8, nil}, 0, 3, 8}, {journey{3, 8, nil}, 8, 12, 9}, {journey{3, 8, nil}, 5, 6, 4},
		{journey{6, 6, nil}, 0, 50, 50}, {journey{0, 50, nil}, 20, 20, 50}, {journey{0, 0, nil}, 50, 50, 100}, {journey{50, 50, nil}, 0, 0, 100},
		// One goes to the call and on, or back.
		{journey{0, 10, []int{5}}, 0, 5, 5}, {journey{0, 10, []int{5}}, 5, 10, 5}, {journey{0, 10, []int{5}}, 0, 10, 10}, {journey{0, 10, []int{5}}, 6, 10, 6}, {journey{0, 10, []int{5}}, 4, 6, 10}, {journey{0, 10, []int{3}}, 0, 10, 6},
		{journey{10, 20, []int{0}}, 10, 20, 20}, {journey{10, 20, []int{25}}, 10, 10, 20}, {journey{5, 5, []int{5}}, 5, 5, 0}, {journey{5, 5, []int{7}}, 5, 7, 2}, {journey{5, 5, []int{7}}, 5, 5, 4}, {journey{5, 5, []int{7, 3}}, 3, 7, 4},
		// The end decides who goes to the first call.
		{journey{0, 10, []int{4}}, 0, 0, 10}, {journey{0, 10, []int{4}}, 4, 4, 10}, {journey{0, 10, []int{6, 0}}, 0, 6, 4}, {journey{0, 10, []int{6, 0}}, 0, 10, 8}, {journey{0, 10, []int{6, 0}}, 0, 0, 10},
	} {
		if got := impl.WorkOf(c.j.a, c.j.b, c.j.calls, c.x, c.y); got != c.work {
			t.Errorf("WorkOf(%v, %d, %d) = %d, not %d", c.j, c.x, c.y, got, c.work)
		}
	}
}

// WayAhead is the least way of all ways to give calls to both, whoever of them is the lower one.
func TestWayAheadIsOfAllWays(t *testing.T) {
	for _, j := range manyJourneys() {
		if got, want := impl.WayAhead(j.a, j.b, j.calls), wayOfAll(j); got != want {
			t.Fatalf("WayAhead(%v) = %d, not %d", j, got, want)
		}
	}
}

// WayGreedy, WayBoth and StandBoth are what comes of going place by place.
func TestWaysAreThoseOfSteps(t *testing.T) {
	for _, j := range manyJourneys() {
		way, _, _ := wayStepwise(j, false)
		if got := impl.WayGreedy(j.a, j.b, j.calls); got != way {
			t.Fatalf("WayGreedy(%v) = %d, not %d", j, got, way)
		}
		way, low, high := wayStepwise(j, true)
		if got := impl.WayBoth(j.a, j.b, j.calls); got != way {
			t.Fatalf("WayBoth(%v) = %d, not %d", j, got, way)
		}
		if got := impl.StandBoth(j.a, j.b, j.calls); !slices.Equal(got, []int{low, high}) {
			t.Fatalf("StandBoth(%v) = %v, not %d and %d", j, got, low, high)
		}
	}
}

// WorkOf is the least way of all ways to give calls to both, and to go on from there.
func TestWorkIsOfAllWays(t *testing.T) {
	for seed, j := range mixedJourneys() {
		for i := range 4 {
			x := mixed(seed, 20+2*i, impl.MaxPlace+1)
			y := x + mixed(seed, 21+2*i, impl.MaxPlace+1-x)
			if got, want := impl.WorkOf(j.a, j.b, j.calls, x, y), workOfAll(j, x, y); got != want {
				t.Fatalf("WorkOf(%v, %d, %d) = %d, not %d", j, x, y, got, want)
			}
		}
	}
}

// No way is less, also of those where both helpers go to places without a call.
func TestWorkIsOfAllPlaces(t *testing.T) {
	for _, j := range smallJourneys() {
		works := worksByPlaces(j, smallPlaces)
		least := math.MaxInt
		for x := range works {
			for y := x; y < smallPlaces; y++ {
				least = min(least, works[x][y])
				if got := impl.WorkOf(j.a, j.b, j.calls, x, y); got != works[x][y] {
					t.Fatalf("WorkOf(%v, %d, %d) = %d, not %d", j, x, y, got, works[x][y])
				}
			}
		}
		if got := impl.WayAhead(j.a, j.b, j.calls); got != least {
			t.Fatalf("WayAhead(%v) = %d, not %d", j, got, least)
		}
	}
}

// Promise 27, with any one call fewer.
func TestWhoKnowsGoesLeast(t *testing.T) {
	for _, j := range manyJourneys() {
		ahead := impl.WayAhead(j.a, j.b, j.calls)
		if ahead < 0 || ahead > impl.WayGreedy(j.a, j.b, j.calls) || ahead > impl.WayBoth(j.a, j.b, j.calls) {
			t.Fatalf("WayAhead(%v) = %d", j, ahead)
		}
		for i := range j.calls {
			fewer := slices.Delete(slices.Clone(j.calls), i, i+1)
			if got := impl.WayAhead(j.a, j.b, fewer); got > ahead {
				t.Fatalf("WayAhead(%v) = %d, without the call %d %d", j, ahead, i, got)
			}
		}
	}
}

// Promise 28: for one call from each place, too.
func TestGreedyWaysAreAtLeastThoseOfWhoKnows(t *testing.T) {
	for _, j := range manyJourneys() {
		if greedy, ahead := impl.WayGreedy(j.a, j.b, j.calls), impl.WayAhead(j.a, j.b, j.calls); greedy < ahead || len(j.calls) <= 1 && greedy != ahead {
			t.Fatalf("WayGreedy(%v) = %d, WayAhead = %d", j, greedy, ahead)
		}
	}
	eachStand([]int{0, 1, 17, 24, 25, 26, 49, 50}, 2, nil, func(both []int) {
		for _, calls := range append([][]int{nil}, listsOfOne()...) {
			if greedy, ahead := impl.WayGreedy(both[0], both[1], calls), impl.WayAhead(both[0], both[1], calls); greedy != ahead {
				t.Errorf("WayGreedy(%v, %v) = %d, WayAhead = %d", both, calls, greedy, ahead)
			}
		}
	})
}

// listsOfOne returns a list for each place, of it alone.
func listsOfOne() [][]int {
	lists := [][]int{}
	for _, place := range placesUpTo(impl.MaxPlace) {
		lists = append(lists, []int{place})
	}
	return lists
}

// Promise 29.
func TestBothGoAtMostTwiceAsFar(t *testing.T) {
	for _, j := range manyJourneys() {
		if both, ahead := impl.WayBoth(j.a, j.b, j.calls), impl.WayAhead(j.a, j.b, j.calls); both > 2*ahead+j.b-j.a {
			t.Fatalf("WayBoth(%v) = %d, WayAhead = %d", j, both, ahead)
		}
	}
}

// Promise 30.
func TestOneStandsAtTheLastCall(t *testing.T) {
	for _, j := range manyJourneys() {
		end := impl.StandBoth(j.a, j.b, j.calls)
		if len(end) != 2 || end[0] > end[1] || end[0] < 0 || end[1] > impl.MaxPlace {
			t.Fatalf("StandBoth(%v) = %v", j, end)
		}
		if len(j.calls) > 0 && !slices.Contains(end, j.calls[len(j.calls)-1]) {
			t.Fatalf("StandBoth(%v) = %v, none at the last call", j, end)
		}
	}
}

// Promise 31.
func TestWorkIsAtLeastTheWay(t *testing.T) {
	for _, j := range manyJourneys() {
		ahead := impl.WayAhead(j.a, j.b, j.calls)
		eachStand([]int{0, 1, 3, 4, 20, impl.MaxPlace}, 2, nil, func(end []int) {
			if got := impl.WorkOf(j.a, j.b, j.calls, end[0], end[1]); got < ahead {
				t.Fatalf("WorkOf(%v, %v) = %d, WayAhead = %d", j, end, got, ahead)
			}
		})
		end := impl.StandBoth(j.a, j.b, j.calls)
		if got, both := impl.WorkOf(j.a, j.b, j.calls, end[0], end[1]), impl.WayBoth(j.a, j.b, j.calls); got < ahead || got > both {
			t.Fatalf("WorkOf(%v, %v) = %d, WayAhead = %d, WayBoth = %d", j, end, got, ahead, both)
		}
	}
}

// Promise 69, and that StandBoth is mirrored as well.
func TestCallsMayBeMirrored(t *testing.T) {
	for _, j := range manyJourneys() {
		seen := mirrored(j)
		if got, want := impl.WayAhead(seen.a, seen.b, seen.calls), impl.WayAhead(j.a, j.b, j.calls); got != want {
			t.Fatalf("WayAhead(%v) = %d, mirrored %d", j, want, got)
		}
		if got, want := impl.WayBoth(seen.a, seen.b, seen.calls), impl.WayBoth(j.a, j.b, j.calls); got != want {
			t.Fatalf("WayBoth(%v) = %d, mirrored %d", j, want, got)
		}
		end := impl.StandBoth(j.a, j.b, j.calls)
		if got := impl.StandBoth(seen.a, seen.b, seen.calls); !slices.Equal(got, otherEnd(end)) {
			t.Fatalf("StandBoth(%v) = %v, mirrored %v", j, end, got)
		}
	}
}

// Promise 70.
func TestTheLeastWorkIsTheWay(t *testing.T) {
	for _, j := range manyJourneys() {
		places := append([]int{j.a, j.b}, j.calls...)
		slices.Sort(places)
		least := math.MaxInt
		eachStand(slices.Compact(places), 2, nil, func(end []int) {
			least = min(least, impl.WorkOf(j.a, j.b, j.calls, end[0], end[1]))
		})
		if ahead := impl.WayAhead(j.a, j.b, j.calls); ahead != least {
			t.Fatalf("WayAhead(%v) = %d, the least work is %d", j, ahead, least)
		}
	}
}

// The conventions: calls are not modified, also not behind their end, results are new memory and do not change from call to call.
func TestCallsKeepNothing(t *testing.T) {
	calls := []int{4, 0, 4, 0, 99}
	for range 20 {
		ahead, greedy, both := impl.WayAhead(0, 10, calls[:4]), impl.WayGreedy(0, 10, calls[:4]), impl.WayBoth(0, 10, calls[:4])
		work := impl.WorkOf(0, 10, calls[:4], 0, 4)
		if !impl.ValidCalls(0, 10, calls[:4]) || ahead != 6 || greedy != 16 || both != 18 || work != 6 {
			t.Fatalf("ways = %d, %d, %d, %d", ahead, greedy, both, work)
		}
		end := impl.StandBoth(0, 10, calls[:4])
		if !slices.Equal(end, []int{0, 4}) {
			t.Fatalf("StandBoth = %v", end)
		}
		end[0], end[1] = 7, 8
	}
	if !slices.Equal(calls, []int{4, 0, 4, 0, 99}) {
		t.Errorf("calls have become %v", calls)
	}
}
