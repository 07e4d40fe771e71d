package tests

import (
	"math"
	"slices"
	"testing"

	"loop.example/helpersinreach/impl"
)

// half is the chance of helpers who are busy half of the time.
var half = impl.Frac{Up: 1, Down: 2}

// notChances are no chances, each for one reason.
var notChances = []impl.Frac{
	{}, {Up: 1, Down: 0}, {Up: -1, Down: 1}, {Up: -1, Down: 10}, {Up: 2, Down: 1}, {Up: 11, Down: 10}, {Up: 0, Down: 11}, {Up: 1, Down: 11}, {Up: 11, Down: 11}, {Up: 5, Down: 20},
	{Up: 0, Down: -1}, {Up: -1, Down: -1}, {Up: -2, Down: -1}, {Up: -1, Down: -2}, {Up: -1, Down: 0}, {Up: math.MinInt, Down: 1}, {Up: math.MaxInt, Down: 1}, {Up: 0, Down: math.MaxInt}, {Up: 0, Down: math.MinInt},
	{Up: math.MinInt, Down: math.MinInt}, {Up: math.MaxInt, Down: math.MaxInt}, {Up: math.MinInt, Down: math.MaxInt}, {Up: math.MaxInt, Down: math.MinInt},
}

// notNear are no ways that a helper may be from a home.
var notNear = []int{-1, -2, impl.MaxPlace + 1, impl.MaxPlace + 2, 1000, math.MinInt, math.MaxInt}

// notSpreads are no numbers of helpers that are spread.
var notSpreads = []int{-1, -2, impl.MaxHelpers + 1, impl.MaxHelpers + 2, 1000, math.MinInt, math.MaxInt}

// tooManySpots are spots as homes are, but for too many helpers.
var tooManySpots = [][]int{{0, 0, 0, 0, 0}, {1, 2, 3, 4, 5}, {0, 1, 2, 3, 4, 5, 6, 7, 8, 9}}

// bySpread are the functions that spread helpers to homes.
var bySpread = map[string]func([]int, int, int, impl.Frac) []int{"BestSpread": impl.BestSpread, "GreedySpread": impl.GreedySpread}

// reached returns MeanReached, which must be there, not negative and in lowest terms.
func reached(t *testing.T, g guard) impl.Frac {
	t.Helper()
	f, ok := impl.MeanReached(g.homes, g.spots, g.far, g.busy)
	if !ok || f.Up < 0 || f.Down < 1 || f != fracOfRat(ratOf(f)) {
		t.Fatalf("MeanReached(%v) = %v, %v", g, f, ok)
	}
	return f
}

// isMore reports whether a fraction is greater than another one.
func isMore(some impl.Frac, other impl.Frac) bool {
	return ratOf(some).Cmp(ratOf(other)) > 0
}

// checkNoGuard checks that BacksOf, and MeanReached with any chance, tell that homes, spots and the way are invalid.
func checkNoGuard(t *testing.T, homes []int, spots []int, far int) {
	t.Helper()
	if got := impl.BacksOf(homes, spots, far); got != nil {
		t.Errorf("BacksOf(%v, %v, %d) = %v", homes, spots, far, got)
	}
	for _, busy := range someChances() {
		checkNotReached(t, guard{homes, spots, far, busy})
	}
}

// checkNotReached checks that MeanReached tells that its arguments are invalid.
func checkNotReached(t *testing.T, g guard) {
	t.Helper()
	if got, ok := impl.MeanReached(g.homes, g.spots, g.far, g.busy); ok || got != (impl.Frac{}) {
		t.Errorf("MeanReached(%v) = %v, %v", g, got, ok)
	}
}

// checkNoSpread checks that no helpers are spread.
func checkNoSpread(t *testing.T, s spread) {
	t.Helper()
	for name, f := range bySpread {
		if got := f(s.homes, s.k, s.far, s.busy); got != nil {
			t.Errorf("%s(%v, %d) = %v", name, s.guard, s.k, got)
		}
	}
}

func TestNotGuards(t *testing.T) {
	right := [][]int{nil, {0}, {0, 3}, {50, 50, 50, 50}}
	for _, other := range right {
		for _, far := range []int{0, 1, impl.MaxPlace} {
			for _, wrong := range notHomes {
				checkNoGuard(t, wrong, other, far)
				checkNoGuard(t, other, wrong, far)
			}
			for _, wrong := range tooManySpots {
				checkNoGuard(t, other, wrong, far)
			}
		}
		for _, far := range notNear {
			for _, homes := range right {
				checkNoGuard(t, homes, other, far)
			}
		}
		for _, busy := range notChances {
			for _, homes := range right {
				checkNotReached(t, guard{homes, other, 1, busy})
			}
		}
	}
}

func TestNotSpread(t *testing.T) {
	homes := []int{0, 2, 4, 10}
	for k := range impl.MaxHelpers + 1 {
		for _, wrong := range append([][]int{nil, {}, {0, 1, 2, 3, 4, 5, 6, 7}, {0, 1, 2, 3, 4, 5, 6, 7, 8, 9}, make([]int, 8)}, notHomes...) {
			checkNoSpread(t, spread{guard{wrong, nil, 1, half}, k})
		}
		for _, far := range notNear {
			checkNoSpread(t, spread{guard{homes, nil, far, half}, k})
		}
		for _, busy := range notChances {
			checkNoSpread(t, spread{guard{homes, nil, 1, busy}, k})
		}
	}
	for _, k := range notSpreads {
		for _, busy := range someChances() {
			checkNoSpread(t, spread{guard{homes, nil, 1, busy}, k})
			checkNoSpread(t, spread{guard{[]int{7}, nil, impl.MaxPlace, busy}, k})
		}
	}
}

func TestBacksByHand(t *testing.T) {
	homes := []int{0, 2, 4, 10}
	for _, c := range []struct {
		homes, spots []int
		far          int
		backs        []int
	}{
		// None, at the same place, just as far, and one more.
		{homes, nil, 50, []int{0, 0, 0, 0}}, {homes, []int{4}, 0, []int{0, 0, 1, 0}}, {homes, []int{4}, 2, []int{0, 1, 1, 0}}, {homes, []int{4}, 4, []int{1, 1, 1, 0}}, {homes, []int{4}, 5, []int{1, 1, 1, 0}}, {homes, []int{4}, 6, []int{1, 1, 1, 1}},
		{homes, []int{1, 3}, 1, []int{1, 2, 1, 0}}, {homes, []int{3, 3, 3, 9}, 1, []int{0, 3, 3, 1}}, {homes, []int{0, 10}, 10, []int{2, 2, 2, 2}}, {homes, []int{0, 0, 0, 0}, 0, []int{4, 0, 0, 0}},
		{[]int{0, 50}, []int{0, 50}, 50, []int{2, 2}}, {[]int{0, 50}, []int{0, 50}, 49, []int{1, 1}}, {[]int{7, 7}, []int{6, 7, 8, 9}, 1, []int{3, 3}},
	} {
		if got := impl.BacksOf(c.homes, c.spots, c.far); !slices.Equal(got, c.backs) {
			t.Errorf("BacksOf(%v, %v, %d) = %v, not %v", c.homes, c.spots, c.far, got, c.backs)
		}
	}
}

func TestReachedByHand(t *testing.T) {
	homes := []int{0, 2, 4, 10}
	for _, c := range []struct {
		g    guard
		want impl.Frac
	}{
		{guard{homes, []int{1, 3}, 1, half}, impl.Frac{Up: 7, Down: 4}}, {guard{homes, []int{1, 3}, 1, impl.Frac{Up: 2, Down: 4}}, impl.Frac{Up: 7, Down: 4}}, {guard{homes, []int{1, 3}, 1, impl.Frac{Up: 5, Down: 10}}, impl.Frac{Up: 7, Down: 4}},
		{guard{homes, []int{1}, 1, impl.Frac{Up: 1, Down: 3}}, impl.Frac{Up: 4, Down: 3}}, {guard{homes, []int{1}, 1, impl.Frac{Up: 2, Down: 3}}, impl.Frac{Up: 2, Down: 3}},
		// Three of four homes have all four helpers near, of whom not all are busy.
		{guard{homes, []int{2, 2, 2, 2}, 2, half}, impl.Frac{Up: 45, Down: 16}}, {guard{homes, []int{2, 2, 2, 2}, 2, impl.Frac{Up: 9, Down: 10}}, impl.Frac{Up: 10317, Down: 10000}}, {guard{homes, []int{2, 2, 2, 2}, 2, impl.Frac{Up: 3, Down: 10}}, impl.Frac{Up: 29757, Down: 10000}},
		// Helpers who are never and always busy, also in other numbers.
		{guard{homes, []int{1, 3}, 1, never}, impl.Frac{Up: 3, Down: 1}}, {guard{homes, []int{1, 3}, 1, impl.Frac{Up: 0, Down: 10}}, impl.Frac{Up: 3, Down: 1}}, {guard{homes, []int{1, 3}, 1, always}, impl.Frac{Up: 0, Down: 1}}, {guard{homes, []int{1, 3}, 1, impl.Frac{Up: 10, Down: 10}}, impl.Frac{Up: 0, Down: 1}},
		// No helpers, no homes, and no home that is near.
		{guard{homes, nil, 50, never}, impl.Frac{Up: 0, Down: 1}}, {guard{homes, nil, 50, half}, impl.Frac{Up: 0, Down: 1}}, {guard{homes, nil, 50, always}, impl.Frac{Up: 0, Down: 1}}, {guard{nil, []int{1}, 1, half}, impl.Frac{Up: 0, Down: 1}}, {guard{nil, nil, 0, half}, impl.Frac{Up: 0, Down: 1}}, {guard{homes, []int{20, 30}, 9, half}, impl.Frac{Up: 0, Down: 1}},
		{guard{[]int{0, 1, 2, 3, 4, 5, 6, 7, 8, 9}, []int{5}, 50, never}, impl.Frac{Up: 10, Down: 1}},
	} {
		if got := reached(t, c.g); got != c.want {
			t.Errorf("MeanReached(%v) = %v, not %v", c.g, got, c.want)
		}
	}
}

func TestSpreadsByHand(t *testing.T) {
	homes, third := []int{0, 2, 4, 10}, impl.Frac{Up: 1, Down: 3}
	for _, c := range []struct {
		homes        []int
		k, far       int
		busy         impl.Frac
		best, greedy []int
	}{
		{homes, 0, 2, half, nil, nil}, {homes, 1, 2, half, []int{2}, []int{2}}, {homes, 2, 2, half, []int{2, 2}, []int{2, 2}}, {homes, 2, 2, never, []int{2, 10}, []int{2, 10}}, {homes, 3, 2, half, []int{2, 2, 10}, []int{2, 2, 10}}, {homes, 3, 2, never, []int{0, 2, 10}, []int{0, 2, 10}},
		// All are as good: helpers who are always busy, who reach all homes from each, and homes that are far from each other.
		{homes, 4, 2, always, []int{0, 0, 0, 0}, []int{0, 0, 0, 0}}, {homes, 3, 10, half, []int{0, 0, 0}, []int{0, 0, 0}}, {homes, 2, 1, half, []int{0, 2}, []int{0, 2}}, {homes, 4, 0, never, []int{0, 2, 4, 10}, []int{0, 2, 4, 10}}, {homes, 4, 0, impl.Frac{Up: 9, Down: 10}, []int{0, 2, 4, 10}, []int{0, 2, 4, 10}},
		// One home, two homes at one place, which count twice, and as many homes as may be.
		{[]int{7}, 4, 0, half, []int{7, 7, 7, 7}, []int{7, 7, 7, 7}}, {[]int{1, 5, 5}, 1, 0, half, []int{5}, []int{5}}, {[]int{1, 5, 5}, 2, 0, half, []int{1, 5}, []int{1, 5}}, {[]int{1, 5, 5}, 2, 0, impl.Frac{Up: 2, Down: 3}, []int{5, 5}, []int{5, 5}}, {[]int{3, 3, 9, 9, 9, 50, 50}, 3, 0, never, []int{3, 9, 50}, []int{3, 9, 50}},
		// The greedy one goes to 3 first, or to 4, where four homes are near, the best one to two places with three each.
		{[]int{0, 1, 3, 4, 5, 6}, 2, 2, never, []int{0, 4}, []int{0, 3}}, {[]int{0, 1, 3, 4, 5, 6}, 2, 2, third, []int{1, 4}, []int{3, 4}}, {[]int{0, 2, 4, 5, 6, 7}, 2, 2, never, []int{0, 5}, []int{0, 4}},
	} {
		if got := impl.BestSpread(c.homes, c.k, c.far, c.busy); !slices.Equal(got, c.best) {
			t.Errorf("BestSpread(%v, %d, %d, %v) = %v, not %v", c.homes, c.k, c.far, c.busy, got, c.best)
		}
		if got := impl.GreedySpread(c.homes, c.k, c.far, c.busy); !slices.Equal(got, c.greedy) {
			t.Errorf("GreedySpread(%v, %d, %d, %v) = %v, not %v", c.homes, c.k, c.far, c.busy, got, c.greedy)
		}
	}
}

// Promise 58, and that each helper is counted who is near, and no other one.
func TestMoreSpotsBackMore(t *testing.T) {
	for _, g := range someGuards(half) {
		backs := impl.BacksOf(g.homes, g.spots, g.far)
		if !slices.Equal(backs, g.backs()) {
			t.Fatalf("BacksOf(%v) = %v, not %v", g, backs, g.backs())
		}
		for i, near := range backs {
			if near > len(g.spots) {
				t.Fatalf("BacksOf(%v) = %v, of home %d more than there are", g, backs, i)
			}
		}
		if len(g.spots) == impl.MaxHelpers {
			continue
		}
		for _, spot := range []int{0, 2, 3, 9, 28, impl.MaxPlace} {
			more := impl.BacksOf(g.homes, g.with(spot).spots, g.far)
			for i, near := range backs {
				if len(more) != len(backs) || more[i] < near || more[i] > near+1 {
					t.Fatalf("BacksOf(%v) = %v, with %d %v", g, backs, spot, more)
				}
			}
		}
	}
}

// MeanReached is that of all cases of helpers who are busy, with each chance, also one with a common factor.
func TestReachedIsOfAllCases(t *testing.T) {
	for _, busy := range allChances() {
		for _, g := range someGuards(busy) {
			if got, want := reached(t, g), g.mean(); got != want {
				t.Fatalf("MeanReached(%v) = %v, not %v", g, got, want)
			}
		}
	}
}

// Promise 59.
func TestMoreHelpersReachMore(t *testing.T) {
	for _, busy := range someChances() {
		for _, g := range someGuards(busy) {
			got := reached(t, g)
			if isMore(got, impl.Frac{Up: len(g.homes), Down: 1}) {
				t.Fatalf("MeanReached(%v) = %v, more than there are", g, got)
			}
			if near := len(g.homes) - countOf(g.backs(), 0); busy.Up == 0 && got != (impl.Frac{Up: near, Down: 1}) {
				t.Fatalf("MeanReached(%v) = %v, but %d have one near", g, got, near)
			}
			if len(g.spots) == 0 {
				continue
			}
			fewer := g
			fewer.spots = g.spots[:len(g.spots)-1]
			if isMore(reached(t, fewer), got) {
				t.Fatalf("MeanReached(%v) = %v, without the last helper %v", g, got, reached(t, fewer))
			}
		}
	}
}

// Promise 80, for all chances of helpers who are always busy, and for all numbers of first homes.
func TestWhoIsAlwaysBusyReachesNone(t *testing.T) {
	for down := 1; down <= impl.MaxLoad; down++ {
		for _, g := range someGuards(impl.Frac{Up: down, Down: down}) {
			if got := reached(t, g); got != (impl.Frac{Up: 0, Down: 1}) {
				t.Fatalf("MeanReached(%v) = %v", g, got)
			}
		}
	}
	for _, busy := range someChances() {
		for _, g := range someGuards(busy) {
			last := never
			for homes := range len(g.homes) + 1 {
				first := g
				first.homes = g.homes[:homes]
				got := reached(t, first)
				if isMore(last, got) {
					t.Fatalf("MeanReached(%v) = %v, without the last home %v", first, got, last)
				}
				last = got
			}
		}
	}
}

// meansOfBoth returns MeanReached of BestSpread and of GreedySpread, of which both must be spots of homes, so many and in order.
func meansOfBoth(t *testing.T, s spread) (impl.Frac, impl.Frac) {
	t.Helper()
	means := []impl.Frac{}
	for _, name := range []string{"BestSpread", "GreedySpread"} {
		g := s.guard
		g.spots = bySpread[name](s.homes, s.k, s.far, s.busy)
		if len(g.spots) != s.k || !slices.IsSorted(g.spots) {
			t.Fatalf("%s(%v, %d) = %v", name, s.guard, s.k, g.spots)
		}
		for _, spot := range g.spots {
			if !slices.Contains(s.homes, spot) {
				t.Fatalf("%s(%v, %d) = %v, not of homes", name, s.guard, s.k, g.spots)
			}
		}
		means = append(means, reached(t, g))
	}
	return means[0], means[1]
}

// Promise 60, and that the greedy one sometimes is not the best one.
func TestTheBestIsAtLeastGreedy(t *testing.T) {
	less := 0
	for _, s := range manySpreads() {
		best, greedy := meansOfBoth(t, s)
		if isMore(greedy, best) || isMore(best, impl.Frac{Up: 2 * greedy.Up, Down: greedy.Down}) {
			t.Fatalf("of %v, %d the best one reaches %v, the greedy one %v", s.guard, s.k, best, greedy)
		}
		if isMore(best, greedy) {
			less++
		}
	}
	if less == 0 {
		t.Error("the greedy one is always the best one")
	}
}

// Promise 61.
func TestGreedyBeginsWithTheBestOne(t *testing.T) {
	for _, s := range manySpreads() {
		meansOfBoth(t, s)
		best, greedy := impl.BestSpread(s.homes, s.k, s.far, s.busy), impl.GreedySpread(s.homes, s.k, s.far, s.busy)
		if s.k == 1 && !slices.Equal(best, greedy) {
			t.Fatalf("GreedySpread(%v, 1) = %v, BestSpread = %v", s.guard, greedy, best)
		}
	}
}

// Promises 60 and 61: both spreads are those of all lists of homes, and the first ones of several, not only as good.
func TestSpreadsAreOfAll(t *testing.T) {
	for _, s := range manySpreads() {
		if got, want := impl.BestSpread(s.homes, s.k, s.far, s.busy), s.bestOfAll(s.k); !slices.Equal(got, want) {
			t.Fatalf("BestSpread(%v, %d) = %v, not %v", s.guard, s.k, got, want)
		}
		if got, want := impl.GreedySpread(s.homes, s.k, s.far, s.busy), s.greedyOfAll(s.k); !slices.Equal(got, want) {
			t.Fatalf("GreedySpread(%v, %d) = %v, not %v", s.guard, s.k, got, want)
		}
	}
}

// Promise 81.
func TestMoreHelpersReachMoreAtBest(t *testing.T) {
	for _, s := range manySpreads() {
		if s.k == impl.MaxHelpers {
			continue
		}
		best, _ := meansOfBoth(t, s)
		s.k++
		if more, _ := meansOfBoth(t, s); isMore(best, more) {
			t.Fatalf("of %v, %d the best one reaches %v, with one fewer %v", s.guard, s.k, more, best)
		}
	}
}

// The conventions: arguments are not modified, also not behind their end, results are new memory and do not change from call to call.
func TestBacksKeepNothing(t *testing.T) {
	homesMemory, spotsMemory := []int{0, 0, 2, 4, 10, 9, 8}, []int{1, 3, 3, 77, 0}
	homes, spots := homesMemory[:5], spotsMemory[:3]
	for range 20 {
		if got := reached(t, guard{homes, spots, 1, half}); got != (impl.Frac{Up: 21, Down: 8}) {
			t.Fatalf("MeanReached = %v", got)
		}
		rows, want := [][]int{}, [][]int{}
		for range 2 {
			rows = append(rows, impl.BacksOf(homes, spots, 1), impl.BestSpread(homes, 3, 2, half), impl.GreedySpread(homes, 3, 2, half))
			want = append(want, []int{1, 1, 3, 2, 0}, []int{2, 2, 2}, []int{2, 2, 2})
		}
		if !sameRows(rows, want) {
			t.Fatalf("BacksOf, BestSpread and GreedySpread, twice: %v", rows)
		}
		checkOwnMemory(t, rows)
		if !slices.Equal(homesMemory, []int{0, 0, 2, 4, 10, 9, 8}) || !slices.Equal(spotsMemory, []int{1, 3, 3, 77, 0}) {
			t.Fatalf("homes and spots have become %v and %v", homesMemory, spotsMemory)
		}
	}
}
