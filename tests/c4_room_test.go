package tests

import (
	"math"
	"slices"
	"testing"

	"loop.example/helpersinreach/impl"
)

// byRoom are the functions of helpers with room.
var byRoom = map[string]func([]int, [][]int) int{"MostTaken": impl.MostTaken, "LeastBlock": impl.LeastBlock}

// byCosts are the functions of costs.
var byCosts = map[string]func([][]int) int{"LeastCost": impl.LeastCost, "CostTried": impl.CostTried}

// notServices are no helpers with room, each for one reason.
var notServices = []service{
	{[]int{-1}, nil}, {[]int{impl.MaxTried + 1}, nil}, {[]int{1, 1, -1}, [][]int{{0}}}, {[]int{8, 1}, [][]int{{1}}},
	{[]int{math.MinInt}, nil}, {[]int{math.MaxInt}, nil}, {[]int{math.MaxInt, math.MaxInt}, [][]int{{0, 1}}},
	{make([]int, impl.MaxHelpers+1), nil}, {make([]int, impl.MaxHelpers+1), [][]int{{4}}}, {make([]int, 1000), nil},
	{nil, make([][]int, impl.MaxTried+1)}, {[]int{7}, slices.Repeat([][]int{{0}}, impl.MaxTried+1)}, {nil, make([][]int, 1000)},
	{nil, [][]int{{0}}}, {[]int{1}, [][]int{{1}}}, {[]int{1}, [][]int{{-1}}}, {[]int{1, 1}, [][]int{{0, 2}}}, {[]int{1, 1}, [][]int{{-1, 0}}},
	{[]int{1, 1}, [][]int{{0, 0}}}, {[]int{1, 1}, [][]int{{1, 0}}}, {[]int{1, 1, 1}, [][]int{{0, 2, 1}}}, {[]int{1, 1, 1}, [][]int{{0, 1, 1}}},
	{[]int{1, 1}, [][]int{{0}, {}, {1, 1}}}, {[]int{1, 1}, [][]int{{0}, {2}, {1}}}, {[]int{1, 1, 1, 1}, [][]int{{4}}},
	{[]int{1}, [][]int{{math.MinInt}}}, {[]int{1}, [][]int{{math.MaxInt}}}, {[]int{1}, [][]int{{math.MinInt, 0}}}, {[]int{1}, [][]int{make([]int, 1000)}},
}

// notCosts are rows that are no costs, each for one reason.
var notCosts = [][][]int{
	{{}}, {nil}, {{1, 2}}, {{1}, {2}}, {{1, 2}, {3}}, {{1}, {2, 3}}, {{1, 2}, {3, 4, 5}}, {{1, 2}, {3, 4}, {5, 6}}, {{1, 2}, nil},
	{{-1}}, {{impl.MaxPlace + 1}}, {{0, 1}, {2, -1}}, {{0, 51}, {2, 3}}, {{math.MinInt}}, {{math.MaxInt}}, {{math.MaxInt, math.MaxInt}, {math.MaxInt, math.MaxInt}},
	slices.Repeat([][]int{make([]int, impl.MaxNodes)}, impl.MaxNodes), make([][]int, impl.MaxNodes), make([][]int, 1000), {make([]int, 1000)},
}

func TestValidRoom(t *testing.T) {
	all := slices.Repeat([][]int{{0, 1, 2, 3}}, impl.MaxTried)
	for _, a := range append(manyServices(), service{nil, nil}, service{[]int{}, [][]int{}}, service{[]int{7, 7, 7, 7}, all}, service{nil, make([][]int, impl.MaxTried)}) {
		if !impl.ValidRoom(a.room, a.wish) {
			t.Fatalf("ValidRoom(%v, %v) is false", a.room, a.wish)
		}
	}
	for _, a := range notServices {
		if impl.ValidRoom(a.room, a.wish) {
			t.Errorf("ValidRoom(%v, %v) is true", a.room, a.wish)
		}
	}
}

func TestNoHelpersWithRoom(t *testing.T) {
	for _, a := range notServices {
		for name, f := range byRoom {
			if got := f(a.room, a.wish); got != -1 {
				t.Errorf("%s(%v, %v) = %d", name, a.room, a.wish, got)
			}
		}
	}
}

// Promise 20.
func TestCallsWithRoomMayBeFewer(t *testing.T) {
	for _, a := range manyServices() {
		for calls := range len(a.wish) + 1 {
			if !impl.ValidRoom(a.room, a.wish[:calls]) {
				t.Fatalf("ValidRoom(%v, %v) is false", a.room, a.wish[:calls])
			}
		}
	}
}

func TestRoomByHand(t *testing.T) {
	for _, c := range []struct {
		room  []int
		wish  [][]int
		taken int
	}{
		// No helpers, no calls, helpers without room, and calls that none takes.
		{nil, nil, 0}, {[]int{}, [][]int{}, 0}, {nil, [][]int{{}, nil}, 0}, {[]int{3, 4}, nil, 0}, {[]int{3, 4}, [][]int{{}, nil, {}}, 0},
		{[]int{0, 0, 0, 0}, [][]int{{0, 1, 2, 3}, {0}}, 0}, {[]int{0, 1}, [][]int{{0}, {0}}, 0}, {[]int{0, 1}, [][]int{{0, 1}, {0, 1}}, 1}, {[]int{1}, [][]int{{}, {0}, {}}, 1},
		// As much room as there is, or as many calls.
		{[]int{2}, [][]int{{0}, {0}, {0}}, 2}, {[]int{7}, [][]int{{0}, {0}, {0}}, 3}, {[]int{7}, slices.Repeat([][]int{{0}}, 7), 7}, {[]int{1, 1, 1, 1}, slices.Repeat([][]int{{0, 1, 2, 3}}, 7), 4},
		// The first call must be given to another helper, or two, or three of them, one after the other.
		{[]int{1, 1}, [][]int{{0, 1}, {0}}, 2}, {[]int{1, 1, 1}, [][]int{{0, 1}, {1, 2}, {0}}, 3}, {[]int{1, 1, 1}, [][]int{{0, 1}, {0, 2}, {0}}, 3},
		{[]int{1, 1, 1, 1}, [][]int{{0, 1}, {1, 2}, {2, 3}, {0}}, 4}, {[]int{1, 1, 1, 1}, [][]int{{0, 1}, {1, 2}, {2, 3}, {0}, {3}}, 4},
		{[]int{2, 2}, [][]int{{0, 1}, {0, 1}, {0}, {0}}, 4}, {[]int{2, 1}, [][]int{{0}, {0, 1}, {0}}, 3}, {[]int{2, 1}, [][]int{{0}, {0, 1}, {0}, {0, 1}}, 3},
		{[]int{1, 2, 1}, [][]int{{0, 1}, {1, 2}, {1}, {0}, {1}}, 4},
	} {
		for name, f := range byRoom {
			if got := f(c.room, c.wish); got != c.taken {
				t.Errorf("%s(%v, %v) = %d, not %d", name, c.room, c.wish, got, c.taken)
			}
		}
	}
}

// Promise 21, and that both numbers are those of all ways and of all sets, not only equal to each other.
func TestCallsTakenAreCallsNotBlocked(t *testing.T) {
	for _, a := range manyServices() {
		taken, block := impl.MostTaken(a.room, a.wish), impl.LeastBlock(a.room, a.wish)
		if taken != block || taken != takenOfAll(a.room, a.wish) || block != blockOfAll(a.room, a.wish) {
			t.Fatalf("MostTaken(%v, %v) = %d, LeastBlock = %d", a.room, a.wish, taken, block)
		}
	}
}

// Promise 21: without the last call no more are taken, and at most one fewer.
func TestWithoutTheLastCallAtMostOneFewer(t *testing.T) {
	for _, a := range manyServices() {
		if len(a.wish) == 0 {
			continue
		}
		taken, fewer := impl.MostTaken(a.room, a.wish), impl.MostTaken(a.room, a.wish[:len(a.wish)-1])
		if fewer > taken || fewer < taken-1 {
			t.Fatalf("MostTaken(%v, %v) = %d, without the last call %d", a.room, a.wish, taken, fewer)
		}
	}
}

// Promise 22.
func TestWhatBlocksIsWhatIsTaken(t *testing.T) {
	for _, a := range manyServices() {
		all := 0
		for _, calls := range a.room {
			all += calls
		}
		block := impl.LeastBlock(a.room, a.wish)
		if block != impl.MostTaken(a.room, a.wish) || block < 0 || block > len(a.wish) || block > all {
			t.Fatalf("LeastBlock(%v, %v) = %d", a.room, a.wish, block)
		}
	}
}

// Promise 67.
func TestRoomForAllTakesAll(t *testing.T) {
	for _, a := range manyServices() {
		for enough := len(a.wish); enough <= impl.MaxTried; enough++ {
			room := slices.Repeat([]int{enough}, len(a.room))
			if got := impl.MostTaken(room, a.wish); got != wished(a.wish) {
				t.Fatalf("MostTaken(%v, %v) = %d", room, a.wish, got)
			}
		}
	}
}

func TestValidCosts(t *testing.T) {
	most := slices.Repeat([][]int{slices.Repeat([]int{impl.MaxPlace}, impl.MaxNodes-1)}, impl.MaxNodes-1)
	for _, cost := range append(manyCosts(), nil, [][]int{}, [][]int{{0}}, most) {
		if !impl.ValidCosts(cost) {
			t.Fatalf("ValidCosts(%v) is false", cost)
		}
	}
	for _, cost := range notCosts {
		if impl.ValidCosts(cost) {
			t.Errorf("ValidCosts(%v) is true", cost)
		}
	}
}

func TestNoCosts(t *testing.T) {
	for _, cost := range notCosts {
		for name, f := range byCosts {
			if got := f(cost); got != -1 {
				t.Errorf("%s(%v) = %d", name, cost, got)
			}
		}
	}
}

// Of five calls all is tried, and of six no longer, while LeastCost has them.
func TestTooManyCallsForAllOrders(t *testing.T) {
	for _, c := range []struct{ n, least, tried int }{{4, 200, 200}, {5, 250, 250}, {6, 300, -1}} {
		cost := slices.Repeat([][]int{slices.Repeat([]int{impl.MaxPlace}, c.n)}, c.n)
		if least, tried := impl.LeastCost(cost), impl.CostTried(cost); least != c.least || tried != c.tried {
			t.Errorf("LeastCost of %d calls = %d, CostTried = %d", c.n, least, tried)
		}
	}
}

func TestCostsByHand(t *testing.T) {
	for _, c := range []struct {
		cost [][]int
		sum  int
	}{
		{nil, 0}, {[][]int{}, 0}, {[][]int{{0}}, 0}, {[][]int{{50}}, 50}, {[][]int{{0, 0}, {0, 0}}, 0}, {[][]int{{50, 50}, {50, 50}}, 100},
		{[][]int{{1, 9}, {9, 1}}, 2}, {[][]int{{9, 1}, {1, 9}}, 2}, {[][]int{{1, 2}, {2, 9}}, 4}, {[][]int{{1, 3}, {1, 9}}, 4},
		{[][]int{{1, 2, 3}, {2, 4, 6}, {3, 6, 9}}, 10}, {[][]int{{4, 1, 3}, {2, 0, 5}, {3, 2, 2}}, 5},
		{[][]int{{9, 9, 9, 1}, {1, 9, 9, 9}, {9, 1, 9, 9}, {9, 9, 1, 9}}, 4}, {[][]int{{1, 1, 1, 1}, {1, 7, 7, 7}, {1, 7, 7, 7}, {1, 7, 7, 7}}, 16},
		{[][]int{{0, 1, 1, 1, 1}, {1, 0, 1, 1, 1}, {1, 1, 0, 1, 1}, {1, 1, 1, 0, 1}, {1, 1, 1, 1, 50}}, 2},
	} {
		for name, f := range byCosts {
			if got := f(c.cost); got != c.sum {
				t.Errorf("%s(%v) = %d, not %d", name, c.cost, got, c.sum)
			}
		}
	}
}

// Promise 23.
func TestCostsMayBeTurned(t *testing.T) {
	for _, cost := range manyCosts() {
		if !impl.ValidCosts(turned(cost)) {
			t.Fatalf("ValidCosts(%v) is false", turned(cost))
		}
	}
}

// Promises 24 and 25, and that both sums are those of all orders, not only equal to each other.
func TestCostsBySetsAreCostsOfAllOrders(t *testing.T) {
	for _, cost := range manyCosts() {
		want := costOfOrders(cost)
		if got := impl.LeastCost(cost); got != want {
			t.Fatalf("LeastCost(%v) = %d, not %d", cost, got, want)
		}
		if len(cost) > 5 {
			want = -1
		}
		if got := impl.CostTried(cost); got != want {
			t.Fatalf("CostTried(%v) = %d, not %d", cost, got, want)
		}
	}
}

// Promise 24: the sum is the same with calls and helpers exchanged.
func TestCostsAreTheSameTurned(t *testing.T) {
	for _, cost := range manyCosts() {
		for name, f := range byCosts {
			if got, other := f(cost), f(turned(cost)); got != other {
				t.Fatalf("%s(%v) = %d, turned %d", name, cost, got, other)
			}
		}
	}
}

// Promise 68: also of any other call.
func TestOneMoreInARowIsOneMoreInAll(t *testing.T) {
	for _, cost := range manyCosts() {
		for call := range cost {
			if slices.Contains(cost[call], impl.MaxPlace) {
				continue
			}
			more := slices.Clone(cost)
			more[call] = slices.Clone(cost[call])
			for i := range more[call] {
				more[call][i]++
			}
			if got, want := impl.LeastCost(more), impl.LeastCost(cost)+1; got != want {
				t.Fatalf("LeastCost(%v) = %d, not %d", more, got, want)
			}
		}
	}
}

// The conventions: lists are not modified, also not behind their end, and results do not change from call to call.
func TestRoomKeepsNothing(t *testing.T) {
	room := []int{1, 2, 1, 7, -9}
	flat := []int{0, 1, 1, 2, 1, 0, 1, 99}
	wish := [][]int{flat[0:2], flat[2:4], flat[4:5], flat[5:6], flat[6:7], {9}}
	numbers := []int{4, 1, 3, 2, 0, 5, 3, 2, 2, 99}
	cost := [][]int{numbers[0:3], numbers[3:6], numbers[6:9], {9}}
	for range 20 {
		if taken, block := impl.MostTaken(room[:3], wish[:5]), impl.LeastBlock(room[:3], wish[:5]); taken != 4 || block != 4 {
			t.Fatalf("MostTaken = %d, LeastBlock = %d", taken, block)
		}
		if least, tried := impl.LeastCost(cost[:3]), impl.CostTried(cost[:3]); least != 5 || tried != 5 {
			t.Fatalf("LeastCost = %d, CostTried = %d", least, tried)
		}
		if !impl.ValidRoom(room[:3], wish[:5]) || !impl.ValidCosts(cost[:3]) {
			t.Fatal("no longer valid")
		}
	}
	if !slices.Equal(room, []int{1, 2, 1, 7, -9}) || !slices.Equal(flat, []int{0, 1, 1, 2, 1, 0, 1, 99}) || !slices.Equal(numbers, []int{4, 1, 3, 2, 0, 5, 3, 2, 2, 99}) {
		t.Errorf("lists have become %v, %v and %v", room, flat, numbers)
	}
	if !sameRows(wish, [][]int{{0, 1}, {1, 2}, {1}, {0}, {1}, {9}}) || !sameRows(cost, [][]int{{4, 1, 3}, {2, 0, 5}, {3, 2, 2}, {9}}) {
		t.Errorf("rows have become %v and %v", wish, cost)
	}
}
