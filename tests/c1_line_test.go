package tests

import (
	"math"
	"slices"
	"testing"

	"loop.example/helpersinreach/impl"
)

// byHelpers are the functions of homes and a number of helpers.
var byHelpers = map[string]func([]int, int) int{"LeastSum": impl.LeastSum, "SumTried": impl.SumTried, "LeastFar": impl.LeastFar}

// byFar are the functions of homes and how far.
var byFar = map[string]func([]int, int) int{"FewestNear": impl.FewestNear, "MostApart": impl.MostApart}

// notHomes are lists that are no homes, each for one reason.
var notHomes = [][]int{
	{-1}, {impl.MaxPlace + 1}, {2, 1}, {1, 2, 3, 2}, {3, 4, -1}, {-1, 0}, {0, impl.MaxPlace + 1},
	{math.MinInt}, {math.MaxInt}, {math.MinInt, math.MaxInt}, make([]int, impl.MaxHomes+1), make([]int, 1000),
}

func TestConstants(t *testing.T) {
	if impl.MaxHomes != 10 || impl.MaxPlace != 50 || impl.MaxHelpers != 4 || impl.MaxTried != 7 {
		t.Error("limits of lines")
	}
}

func TestValidHomes(t *testing.T) {
	for _, list := range [][]int{nil, {}, {0}, {50}, {0, 50}, {3, 3, 3}, {0, 0, 1, 50, 50}, make([]int, 10), {1, 2, 3, 4, 5, 6, 7, 8, 9, 50}} {
		if !impl.ValidHomes(list) {
			t.Errorf("ValidHomes(%v) is false", list)
		}
	}
	for _, list := range notHomes {
		if impl.ValidHomes(list) {
			t.Errorf("ValidHomes(%v) is true", list)
		}
	}
}

// Promise 1.
func TestHomesMayBeFewer(t *testing.T) {
	for _, list := range manyHomes() {
		for n := range len(list) + 1 {
			if !impl.ValidHomes(list[:n]) {
				t.Fatalf("ValidHomes(%v) is false", list[:n])
			}
		}
	}
}

func TestInvalidLines(t *testing.T) {
	wrongHelpers := []int{math.MinInt, -1, 0, impl.MaxHelpers + 1, math.MaxInt}
	wrongFar := []int{math.MinInt, -1, impl.MaxPlace + 1, math.MaxInt/2 + 1, math.MaxInt}
	for name, f := range byHelpers {
		checkInvalid(t, name, f, wrongHelpers, impl.MaxHelpers)
	}
	for name, f := range byFar {
		checkInvalid(t, name, f, wrongFar, impl.MaxPlace)
	}
}

// checkInvalid checks -1 for numbers that are wrong with homes and without, and for lists that are no homes.
func checkInvalid(t *testing.T, name string, f func([]int, int) int, wrong []int, right int) {
	for _, number := range wrong {
		for _, list := range [][]int{nil, {7}, {1, 2, 30}} {
			if got := f(list, number); got != -1 {
				t.Errorf("%s(%v, %d) = %d", name, list, number, got)
			}
		}
	}
	for _, list := range notHomes {
		for _, number := range append([]int{1, right}, wrong...) {
			if got := f(list, number); got != -1 {
				t.Errorf("%s(%v, %d) = %d", name, list, number, got)
			}
		}
	}
}

func TestTooManyTried(t *testing.T) {
	seven, eight := []int{0, 1, 2, 3, 4, 5, 6}, []int{0, 1, 2, 3, 4, 5, 6, 7}
	if got := impl.SumTried(seven, 1); got != 12 {
		t.Errorf("SumTried of seven = %d", got)
	}
	if got := impl.SumTried(eight, 1); got != -1 {
		t.Errorf("SumTried of eight = %d", got)
	}
	if got := impl.LeastSum(eight, 1); got != 16 {
		t.Errorf("LeastSum of eight = %d", got)
	}
}

func TestNoHomes(t *testing.T) {
	for _, list := range [][]int{nil, {}} {
		for k := 1; k <= impl.MaxHelpers; k++ {
			for name, f := range byHelpers {
				if got := f(list, k); got != 0 {
					t.Errorf("%s of no homes, %d = %d", name, k, got)
				}
			}
		}
		for far := range impl.MaxPlace + 1 {
			for name, f := range byFar {
				if got := f(list, far); got != 0 {
					t.Errorf("%s of no homes, %d = %d", name, far, got)
				}
			}
		}
	}
}

// With as many helpers as homes, or more of them, each home has its own.
func TestAsManyHelpersAsHomes(t *testing.T) {
	for _, list := range manyHomes() {
		for k := max(1, different(list)); k <= impl.MaxHelpers; k++ {
			if got := impl.LeastSum(list, k); got != 0 {
				t.Fatalf("LeastSum(%v, %d) = %d", list, k, got)
			}
			if got := impl.LeastFar(list, k); got != 0 {
				t.Fatalf("LeastFar(%v, %d) = %d", list, k, got)
			}
			if got := impl.SumTried(list, k); len(list) <= k && got != 0 {
				t.Fatalf("SumTried(%v, %d) = %d", list, k, got)
			}
		}
	}
}

func TestLinesByHand(t *testing.T) {
	for _, c := range []struct {
		list                           []int
		k, sum, far, leastFar, helpers int
	}{
		{[]int{9}, 1, 0, 0, 0, 1},
		{[]int{0, 50}, 1, 50, 24, 25, 2},
		{[]int{0, 50}, 1, 50, 25, 25, 1},
		{[]int{0, 3}, 1, 3, 1, 2, 2},
		{[]int{0, 1, 10}, 1, 10, 2, 5, 2},
		{[]int{0, 1, 10}, 2, 1, 2, 1, 2},
		{[]int{5, 5, 5, 20, 20}, 1, 30, 0, 8, 2},
		{[]int{5, 5, 5, 20, 20}, 2, 0, 7, 0, 2},
		{[]int{0, 2, 4, 6, 8, 10, 12, 14, 16, 18}, 3, 16, 1, 3, 5},
		{[]int{0, 2, 4, 6, 8, 10, 12, 14, 16, 18}, 4, 12, 3, 2, 3},
		{[]int{50, 50}, 4, 0, 50, 0, 1},
	} {
		if got := impl.LeastSum(c.list, c.k); got != c.sum {
			t.Errorf("LeastSum(%v, %d) = %d, not %d", c.list, c.k, got, c.sum)
		}
		if got := impl.LeastFar(c.list, c.k); got != c.leastFar {
			t.Errorf("LeastFar(%v, %d) = %d, not %d", c.list, c.k, got, c.leastFar)
		}
		for name, f := range byFar {
			if got := f(c.list, c.far); got != c.helpers {
				t.Errorf("%s(%v, %d) = %d, not %d", name, c.list, c.far, got, c.helpers)
			}
		}
	}
}

// Promises 2 and 3.
func TestSumsByGroupsAreSumsOfChoices(t *testing.T) {
	for _, list := range manyHomes() {
		last := math.MaxInt
		for k := 1; k <= impl.MaxHelpers; k++ {
			sum := impl.LeastSum(list, k)
			if sum < 0 || sum > last || sum != impl.LeastSum(otherEnd(list), k) {
				t.Fatalf("LeastSum(%v, %d) = %d", list, k, sum)
			}
			last = sum
			tried := impl.SumTried(list, k)
			if len(list) <= impl.MaxTried && tried != sum || len(list) > impl.MaxTried && tried != -1 {
				t.Fatalf("SumTried(%v, %d) = %d, LeastSum = %d", list, k, tried, sum)
			}
		}
	}
}

// Promises 2 and 3: both sums are those of helpers at any places, not only equal to each other.
func TestSumsAreLeastAnywhere(t *testing.T) {
	for _, list := range fewHomes() {
		for k := 1; k <= impl.MaxHelpers; k++ {
			want := sumAnywhere(list, k, placesUpTo(7))
			if sum, tried := impl.LeastSum(list, k), impl.SumTried(list, k); sum != want || tried != want {
				t.Fatalf("LeastSum(%v, %d) = %d, SumTried = %d, not %d", list, k, sum, tried, want)
			}
		}
	}
	for _, list := range [][]int{{0, 3, 8, 13, 14, 21, 34, 35, 49, 50}, {1, 1, 2, 12, 20, 28, 36, 44, 47, 50}, {0, 0, 0, 0, 0, 25, 50, 50, 50, 50}} {
		for k := 1; k <= 3; k++ {
			if sum, want := impl.LeastSum(list, k), sumAnywhere(list, k, placesUpTo(impl.MaxPlace)); sum != want {
				t.Errorf("LeastSum(%v, %d) = %d, not %d", list, k, sum, want)
			}
		}
		if sum, want := impl.LeastSum(list, 4), sumAnywhere(list, 4, list); sum != want {
			t.Errorf("LeastSum(%v, 4) = %d, not %d", list, sum, want)
		}
	}
}

// Promises 4 and 5.
func TestFewestHelpersAreMostApart(t *testing.T) {
	for _, list := range manyHomes() {
		last := math.MaxInt
		for far := range impl.MaxPlace + 1 {
			near, apart := impl.FewestNear(list, far), impl.MostApart(list, far)
			if near < 0 || near != apart || near > last {
				t.Fatalf("FewestNear(%v, %d) = %d, MostApart = %d, nearer %d", list, far, near, apart, last)
			}
			last = near
		}
	}
}

// Promise 5.
func TestOfNoWayAllAreApart(t *testing.T) {
	for _, list := range manyHomes() {
		if got := impl.MostApart(list, 0); got != different(list) {
			t.Fatalf("MostApart(%v, 0) = %d", list, got)
		}
	}
}

// Promises 4 and 5: both numbers are those of all places and of all sets, not only equal to each other.
func TestNearAndApartOfAll(t *testing.T) {
	for _, list := range fewHomes() {
		for far := range 5 {
			want := fewestAnywhere(list, far, placesUpTo(7))
			if got := impl.FewestNear(list, far); got != want {
				t.Fatalf("FewestNear(%v, %d) = %d, not %d", list, far, got, want)
			}
			want = mostOfAll(list, far)
			if got := impl.MostApart(list, far); got != want {
				t.Fatalf("MostApart(%v, %d) = %d, not %d", list, far, got, want)
			}
		}
	}
}

// Promise 6.
func TestLeastFarIsEnoughAndNoLess(t *testing.T) {
	for _, list := range manyHomes() {
		for k := 1; k <= impl.MaxHelpers; k++ {
			far := impl.LeastFar(list, k)
			if near := impl.FewestNear(list, far); near < 0 || near > k {
				t.Fatalf("LeastFar(%v, %d) = %d, with which FewestNear = %d", list, k, far, near)
			}
			if far > 0 && impl.FewestNear(list, far-1) <= k {
				t.Fatalf("LeastFar(%v, %d) = %d, and one less is enough", list, k, far)
			}
		}
	}
}

// Promise 6: so far is it from helpers at any places.
func TestLeastFarAnywhere(t *testing.T) {
	for _, list := range fewHomes() {
		for k := 1; k <= impl.MaxHelpers; k++ {
			if got, want := impl.LeastFar(list, k), farAnywhere(list, k, placesUpTo(7)); got != want {
				t.Fatalf("LeastFar(%v, %d) = %d, not %d", list, k, got, want)
			}
		}
	}
}

// Promise 64.
func TestOneHelperStandsInTheMiddle(t *testing.T) {
	for _, list := range manyHomes() {
		want := 0
		if len(list) > 0 {
			want = (list[len(list)-1] - list[0] + 1) / 2
		}
		if got := impl.LeastFar(list, 1); got != want {
			t.Fatalf("LeastFar(%v, 1) = %d, not %d", list, got, want)
		}
	}
}

// Promise 65.
func TestOneHelperHalvesTheHomes(t *testing.T) {
	for _, list := range manyHomes() {
		want := 0
		for i := range len(list) / 2 {
			want += list[len(list)-1-i] - list[i]
		}
		if got := impl.LeastSum(list, 1); got != want {
			t.Fatalf("LeastSum(%v, 1) = %d, not %d", list, got, want)
		}
	}
}

// The conventions: homes are not modified, also not behind their end, and results do not change from call to call.
func TestLinesKeepNothing(t *testing.T) {
	memory := []int{3, 3, 8, 20, 21, 40, 46, 9, 1, 5}
	before := slices.Clone(memory)
	list := memory[:7]
	for _, fs := range []map[string]func([]int, int) int{byHelpers, byFar} {
		for name, f := range fs {
			for number := 1; number <= impl.MaxHelpers; number++ {
				want := f(list, number)
				for range 50 {
					if got := f(list, number); got != want {
						t.Fatalf("%s(%v, %d) = %d, then %d", name, list, number, want, got)
					}
				}
			}
		}
	}
	if !impl.ValidHomes(list) || !slices.Equal(memory, before) {
		t.Errorf("homes have become %v", memory)
	}
}
