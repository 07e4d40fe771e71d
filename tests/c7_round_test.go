package tests

import (
	"math"
	"slices"
	"testing"

	"loop.example/helpersinreach/impl"
)

// listsByRound are the functions of a round that return a list.
var listsByRound = map[string]func(int, []int) []int{"VisitsOf": impl.VisitsOf, "GapsOf": impl.GapsOf}

// notPatrols are no rounds, each for one reason.
var notPatrols = []patrol{
	// No row.
	{0, nil}, {0, []int{0}}, {-1, []int{0}}, {-1, []int{-1}}, {impl.MaxSpots + 1, []int{0}}, {impl.MaxSpots + 1, []int{8}}, {100, []int{0, 1}}, {math.MinInt, []int{0}}, {math.MaxInt, []int{0}},
	// No times, and too many of them.
	{1, nil}, {1, []int{}}, {4, nil}, {8, []int{}}, {1, make([]int, impl.MaxRound+1)}, {8, slices.Repeat([]int{7}, impl.MaxRound+1)}, {2, slices.Repeat([]int{0, 1}, 11)}, {1, make([]int, 1000)},
	// No spot of the row, alone, at both ends of the round, and within it.
	{1, []int{1}}, {1, []int{-1}}, {2, []int{2}}, {4, []int{4}}, {8, []int{8}}, {8, []int{-1}}, {2, []int{1, 2}}, {2, []int{2, 1}}, {2, []int{0, -1}}, {2, []int{-1, 0}}, {3, []int{1, 2, 3, 2}}, {3, []int{1, 0, -1, 0}},
	{1, []int{math.MinInt}}, {1, []int{math.MaxInt}}, {2, []int{math.MinInt, math.MinInt}}, {8, []int{math.MaxInt, math.MinInt}}, {8, []int{0, math.MinInt}}, {8, []int{math.MinInt, 0}}, {8, []int{-1, math.MaxInt}}, {8, []int{0, math.MaxInt, 0}},
	// A step that is too long, the first one, one within, the last one, and the one from the last spot to the first one.
	{4, []int{0, 2}}, {4, []int{2, 0}}, {4, []int{0, 3}}, {4, []int{0, 2, 1}}, {4, []int{1, 0, 2}}, {4, []int{0, 1, 3, 2, 1}}, {4, []int{1, 2, 0, 1}}, {4, []int{0, 1, 2}}, {4, []int{2, 1, 0}}, {4, []int{3, 2, 1, 1}}, {8, []int{0, 1, 2, 3, 4, 5, 6, 7}},
	{8, append(make([]int, impl.MaxRound-1), 2)}, {8, append([]int{2}, make([]int, impl.MaxRound-1)...)},
}

// worst returns WorstGap.
func worst(p patrol) int {
	return impl.WorstGap(p.n, p.round)
}

func TestRoundConstants(t *testing.T) {
	if impl.MaxSpots != 8 || impl.MaxRound != 20 {
		t.Error("limits of rounds")
	}
}

func TestValidRound(t *testing.T) {
	for _, p := range append(manyPatrols(), patrol{1, []int{0}}, patrol{4, []int{2}}, patrol{8, slices.Repeat([]int{7}, impl.MaxRound)}, patrol{1, make([]int, impl.MaxRound)}) {
		if !impl.ValidRound(p.n, p.round) {
			t.Fatalf("ValidRound(%v) is false", p)
		}
	}
	for _, p := range notPatrols {
		if impl.ValidRound(p.n, p.round) {
			t.Errorf("ValidRound(%v) is true", p)
		}
	}
	for n := range 5 {
		for long := range 6 {
			for _, round := range listsOfSpots(-1, n, long) {
				if p := (patrol{n, round}); impl.ValidRound(n, round) != goesRound(p) {
					t.Fatalf("ValidRound(%v) is not %v", p, goesRound(p))
				}
			}
		}
	}
}

func TestNotRounds(t *testing.T) {
	for _, p := range notPatrols {
		for name, f := range listsByRound {
			if got := f(p.n, p.round); got != nil {
				t.Errorf("%s(%v) = %v", name, p, got)
			}
		}
		if got := worst(p); got != -1 {
			t.Errorf("WorstGap(%v) = %d", p, got)
		}
		for _, late := range []int{-1, 0, 1, 7, impl.MaxRound, impl.MaxRound + 1} {
			if got := impl.TwoGap(p.n, p.round, late); got != -1 {
				t.Errorf("TwoGap(%v, %d) = %d", p, late, got)
			}
		}
	}
}

func TestWrongTimesBehind(t *testing.T) {
	for _, p := range manyPatrols() {
		for _, late := range []int{-1, -2, -impl.MaxRound, impl.MaxRound + 1, impl.MaxRound + 2, 2 * impl.MaxRound, 1000, math.MinInt, math.MinInt + 1, math.MaxInt} {
			if got := impl.TwoGap(p.n, p.round, late); got != -1 {
				t.Fatalf("TwoGap(%v, %d) = %d", p, late, got)
			}
		}
	}
}

func TestSweepsByHand(t *testing.T) {
	for n, want := range [][]int{nil, {0}, {0, 1}, {0, 1, 2, 1}, {0, 1, 2, 3, 2, 1}, {0, 1, 2, 3, 4, 3, 2, 1}, {0, 1, 2, 3, 4, 5, 4, 3, 2, 1}, {0, 1, 2, 3, 4, 5, 6, 5, 4, 3, 2, 1}, {0, 1, 2, 3, 4, 5, 6, 7, 6, 5, 4, 3, 2, 1}, nil} {
		if got := impl.SweepRound(n); !slices.Equal(got, want) {
			t.Errorf("SweepRound(%d) = %v, not %v", n, got, want)
		}
	}
	for _, n := range []int{0, -1, -2, impl.MaxSpots + 1, impl.MaxSpots + 2, 1000, math.MinInt, math.MaxInt} {
		if got := impl.SweepRound(n); got != nil {
			t.Errorf("SweepRound(%d) = %v", n, got)
		}
	}
}

func TestRoundsByHand(t *testing.T) {
	for _, c := range []struct {
		p      patrol
		visits []int
		gaps   []int
		worst  int
	}{
		// One visit alone takes the whole round.
		{patrol{2, []int{0, 1}}, []int{1, 1}, []int{2, 2}, 2}, {patrol{2, []int{0, 0, 1, 0}}, []int{3, 1}, []int{2, 4}, 4}, {patrol{2, []int{1, 0, 0, 0, 0}}, []int{4, 1}, []int{2, 5}, 5},
		// A helper stays: at the beginning, within, and from the last time to the first one.
		{patrol{2, []int{0, 0, 1, 1}}, []int{2, 2}, []int{3, 3}, 3}, {patrol{2, []int{0, 1, 1, 0}}, []int{2, 2}, []int{3, 3}, 3}, {patrol{3, []int{0, 1, 1, 2, 1}}, []int{1, 3, 1}, []int{5, 2, 5}, 5},
		// The longest time is the first one, one within, the last one, and the one round the end.
		{patrol{2, []int{0, 1, 1, 1, 0, 1}}, []int{2, 4}, []int{4, 2}, 4}, {patrol{2, []int{0, 1, 0, 1, 1, 1, 0, 1}}, []int{3, 5}, []int{4, 2}, 4}, {patrol{2, []int{0, 1, 0, 1, 1, 1}}, []int{2, 4}, []int{4, 2}, 4}, {patrol{2, []int{1, 1, 0, 1, 0, 1, 1}}, []int{2, 5}, []int{5, 2}, 5},
		{patrol{4, []int{0, 1, 2, 3, 2, 1}}, []int{1, 2, 2, 1}, []int{6, 4, 4, 6}, 6}, {patrol{4, []int{2, 3, 2, 1, 0, 1}}, []int{1, 2, 2, 1}, []int{6, 4, 4, 6}, 6}, {patrol{3, []int{1, 0, 1, 2}}, []int{1, 2, 1}, []int{4, 2, 4}, 4},
		// Spots that are never visited, at one end, at the other one, and at both.
		{patrol{3, []int{0, 1}}, []int{1, 1, 0}, []int{2, 2, -1}, -1}, {patrol{3, []int{2, 1}}, []int{0, 1, 1}, []int{-1, 2, 2}, -1}, {patrol{5, []int{2, 2, 3}}, []int{0, 0, 2, 1, 0}, []int{-1, -1, 2, 3, -1}, -1}, {patrol{4, []int{2}}, []int{0, 0, 1, 0}, []int{-1, -1, 1, -1}, -1}, {patrol{2, []int{0}}, []int{1, 0}, []int{1, -1}, -1},
	} {
		if got := impl.VisitsOf(c.p.n, c.p.round); !slices.Equal(got, c.visits) {
			t.Errorf("VisitsOf(%v) = %v, not %v", c.p, got, c.visits)
		}
		if got := impl.GapsOf(c.p.n, c.p.round); !slices.Equal(got, c.gaps) {
			t.Errorf("GapsOf(%v) = %v, not %v", c.p, got, c.gaps)
		}
		if got := worst(c.p); got != c.worst {
			t.Errorf("WorstGap(%v) = %d, not %d", c.p, got, c.worst)
		}
	}
}

func TestTwoHelpersByHand(t *testing.T) {
	for _, c := range []struct {
		p    patrol
		late int
		want int
	}{
		{patrol{4, []int{0, 1, 2, 3, 2, 1}}, 0, 6}, {patrol{4, []int{0, 1, 2, 3, 2, 1}}, 1, 5}, {patrol{4, []int{0, 1, 2, 3, 2, 1}}, 2, 4}, {patrol{4, []int{0, 1, 2, 3, 2, 1}}, 3, 3}, {patrol{4, []int{0, 1, 2, 3, 2, 1}}, 4, 4}, {patrol{4, []int{0, 1, 2, 3, 2, 1}}, 5, 5}, {patrol{4, []int{0, 1, 2, 3, 2, 1}}, 6, 6},
		// More than a whole round behind.
		{patrol{4, []int{0, 1, 2, 3, 2, 1}}, 9, 3}, {patrol{4, []int{0, 1, 2, 3, 2, 1}}, 20, 4}, {patrol{2, []int{0, 1}}, 19, 1}, {patrol{2, []int{0, 1}}, 20, 2}, {patrol{3, []int{0, 1, 2, 1, 1}}, 17, 3},
		// No whole number of times is the half of an odd round.
		{patrol{2, []int{0, 0, 1}}, 1, 2}, {patrol{2, []int{0, 0, 1}}, 2, 2}, {patrol{2, []int{0, 0, 1}}, 3, 3},
		// The worse one of two spots: at one end both visits come close together.
		{patrol{3, []int{0, 0, 1, 2, 1, 1}}, 1, 5}, {patrol{3, []int{0, 0, 1, 2, 1, 1}}, 3, 3},
		// The second helper is never where the first one is not.
		{patrol{3, []int{0, 1}}, 0, -1}, {patrol{3, []int{0, 1}}, 1, -1}, {patrol{2, []int{1}}, 20, -1}, {patrol{8, []int{3, 4, 5, 4}}, 2, -1},
	} {
		if got := impl.TwoGap(c.p.n, c.p.round, c.late); got != c.want {
			t.Errorf("TwoGap(%v, %d) = %d, not %d", c.p, c.late, got, c.want)
		}
	}
}

func TestOneSpot(t *testing.T) {
	for long := 1; long <= impl.MaxRound; long++ {
		p := patrol{1, make([]int, long)}
		if visits, gaps := impl.VisitsOf(1, p.round), impl.GapsOf(1, p.round); !slices.Equal(visits, []int{long}) || !slices.Equal(gaps, []int{1}) || worst(p) != 1 {
			t.Errorf("one spot, %d times: %v, %v, %d", long, visits, gaps, worst(p))
		}
		for late := range impl.MaxRound + 1 {
			if got := impl.TwoGap(1, p.round, late); got != 1 {
				t.Errorf("TwoGap(%v, %d) = %d", p, late, got)
			}
		}
	}
}

// GapsOf, WorstGap and TwoGap are what a clock shows.
func TestGapsAreByClock(t *testing.T) {
	for _, p := range manyPatrols() {
		waits := waitsByClock(p, 0)
		if got := impl.GapsOf(p.n, p.round); !slices.Equal(got, waits) {
			t.Fatalf("GapsOf(%v) = %v, not %v", p, got, waits)
		}
		if got := worst(p); got != worstOfWaits(waits) {
			t.Fatalf("WorstGap(%v) = %d, not %d", p, got, worstOfWaits(waits))
		}
		for late := range impl.MaxRound + 1 {
			if got, want := impl.TwoGap(p.n, p.round, late), worstOfWaits(waitsByClock(p, late)); got != want {
				t.Fatalf("TwoGap(%v, %d) = %d, not %d", p, late, got, want)
			}
		}
	}
}

// A round is the same one wherever it begins.
func TestRoundsBeginAnywhere(t *testing.T) {
	for _, p := range manyPatrols() {
		for times := range p.round {
			later := begunAt(p.round, times)
			if !slices.Equal(impl.VisitsOf(p.n, later), impl.VisitsOf(p.n, p.round)) || !slices.Equal(impl.GapsOf(p.n, later), impl.GapsOf(p.n, p.round)) {
				t.Fatalf("%v, begun %d later", p, times)
			}
			if got, want := impl.TwoGap(p.n, later, 3), impl.TwoGap(p.n, p.round, 3); got != want {
				t.Fatalf("TwoGap(%v, 3) = %d, begun %d later %d", p, want, times, got)
			}
		}
	}
}

// Promise 36, also of lists that are no rounds, and that both are visited as often and as well.
func TestRoundsMayBeTurned(t *testing.T) {
	for _, p := range manyPatrols() {
		back := otherWay(p.round)
		if !impl.ValidRound(p.n, back) {
			t.Fatalf("ValidRound(%v) is false the other way round", p)
		}
		if !slices.Equal(impl.VisitsOf(p.n, back), impl.VisitsOf(p.n, p.round)) || !slices.Equal(impl.GapsOf(p.n, back), impl.GapsOf(p.n, p.round)) {
			t.Fatalf("visits and gaps of %v are others the other way round", p)
		}
	}
	for _, p := range notPatrols {
		if impl.ValidRound(p.n, otherWay(p.round)) {
			t.Errorf("ValidRound(%v) is true the other way round", p)
		}
	}
}

// Promise 37.
func TestVisitsAreTheWholeRound(t *testing.T) {
	for _, p := range manyPatrols() {
		visits := impl.VisitsOf(p.n, p.round)
		sum := 0
		for spot, often := range visits {
			sum += often
			if times := len(slices.DeleteFunc(slices.Clone(p.round), func(at int) bool { return at != spot })); often != times {
				t.Fatalf("VisitsOf(%v) = %v, not %d of the spot %d", p, visits, times, spot)
			}
		}
		if len(visits) != p.n || sum != len(p.round) {
			t.Fatalf("VisitsOf(%v) = %v", p, visits)
		}
	}
}

// Promise 38.
func TestGapsFillTheRound(t *testing.T) {
	for _, p := range manyPatrols() {
		visits, gaps := impl.VisitsOf(p.n, p.round), impl.GapsOf(p.n, p.round)
		if len(gaps) != p.n || len(visits) != p.n {
			t.Fatalf("VisitsOf(%v) = %v, GapsOf = %v", p, visits, gaps)
		}
		for spot, gap := range gaps {
			if visits[spot] == 0 && gap != -1 || visits[spot] > 0 && (gap*visits[spot] < len(p.round) || gap > len(p.round)) || visits[spot] == 1 && gap != len(p.round) {
				t.Fatalf("VisitsOf(%v) = %v, GapsOf = %v", p, visits, gaps)
			}
		}
	}
}

// Promise 39.
func TestNoRoundIsBetterThanToAndFro(t *testing.T) {
	full := 0
	for _, p := range manyPatrols() {
		got, gaps := worst(p), impl.GapsOf(p.n, p.round)
		if slices.Contains(impl.VisitsOf(p.n, p.round), 0) {
			if got != -1 {
				t.Fatalf("WorstGap(%v) = %d", p, got)
			}
			continue
		}
		full++
		if got < 2*(p.n-1) || got != slices.Max(gaps) {
			t.Fatalf("WorstGap(%v) = %d, GapsOf = %v", p, got, gaps)
		}
	}
	if full < 1000 {
		t.Fatalf("just %d rounds are at all spots", full)
	}
}

// Promise 40.
func TestToAndFroIsARound(t *testing.T) {
	for n := 1; n <= impl.MaxSpots; n++ {
		p := patrol{n, impl.SweepRound(n)}
		if !impl.ValidRound(n, p.round) || !slices.Equal(p.round, toAndFro(n)) {
			t.Errorf("SweepRound(%d) = %v", n, p.round)
		}
		if got := worst(p); got != max(2*(n-1), 1) {
			t.Errorf("WorstGap(%v) = %d", p, got)
		}
	}
}

// Promise 41, of whole rounds behind as well, and that who is behind by as much of the round that is left does as well.
func TestTwoWaitNoLonger(t *testing.T) {
	for _, p := range manyPatrols() {
		one, long := worst(p), len(p.round)
		for late := range impl.MaxRound + 1 {
			two := impl.TwoGap(p.n, p.round, late)
			if two > one || (two == -1) != (one == -1) || late%long == 0 && two != one {
				t.Fatalf("TwoGap(%v, %d) = %d, WorstGap = %d", p, late, two, one)
			}
			if left := long - late; left >= 0 && two != impl.TwoGap(p.n, p.round, left) {
				t.Fatalf("TwoGap(%v, %d) = %d, not that of %d", p, late, two, left)
			}
		}
	}
}

// Promise 72.
func TestTwoSweepTwiceAsWell(t *testing.T) {
	for n := 1; n <= impl.MaxSpots; n++ {
		p := patrol{n, impl.SweepRound(n)}
		one, two := worst(p), impl.TwoGap(n, p.round, len(p.round)/2)
		if two > one || 2*two < one {
			t.Errorf("TwoGap(%v) = %d, WorstGap = %d", p, two, one)
		}
		if two != max(n-1, 1) {
			t.Errorf("TwoGap(%v) = %d, not %d", p, two, max(n-1, 1))
		}
	}
}

// Promise 73, and twice as many visits, and the same for two helpers.
func TestRoundsTwiceAreAsRounds(t *testing.T) {
	for _, p := range manyPatrols() {
		if 2*len(p.round) > impl.MaxRound {
			continue
		}
		twice := slices.Concat(p.round, p.round)
		if got, want := impl.GapsOf(p.n, twice), impl.GapsOf(p.n, p.round); got == nil || !slices.Equal(got, want) {
			t.Fatalf("GapsOf(%v) = %v, twice %v", p, want, got)
		}
		for spot, often := range impl.VisitsOf(p.n, p.round) {
			if got := impl.VisitsOf(p.n, twice)[spot]; got != 2*often {
				t.Fatalf("VisitsOf(%v) of %d are %d, twice %d", p, spot, often, got)
			}
		}
		for late := range impl.MaxRound + 1 {
			if got, want := impl.TwoGap(p.n, twice, late), impl.TwoGap(p.n, p.round, late); got != want {
				t.Fatalf("TwoGap(%v, %d) = %d, twice %d", p, late, want, got)
			}
		}
	}
}

// The conventions: a round is not modified, also not behind its end, results are new memory and do not change from call to call.
func TestRoundsKeepNothing(t *testing.T) {
	spots := []int{0, 1, 2, 3, 2, 1, 77}
	round := spots[:6]
	for range 20 {
		visits, gaps, sweep := impl.VisitsOf(4, round), impl.GapsOf(4, round), impl.SweepRound(4)
		if !slices.Equal(visits, []int{1, 2, 2, 1}) || !slices.Equal(gaps, []int{6, 4, 4, 6}) || !slices.Equal(sweep, round) {
			t.Fatalf("VisitsOf = %v, GapsOf = %v, SweepRound = %v", visits, gaps, sweep)
		}
		if one, two := impl.WorstGap(4, round), impl.TwoGap(4, round, 3); one != 6 || two != 3 || !impl.ValidRound(4, round) {
			t.Fatalf("WorstGap = %d, TwoGap = %d", one, two)
		}
		checkOwnMemory(t, [][]int{visits, gaps, sweep})
	}
	if !slices.Equal(spots, []int{0, 1, 2, 3, 2, 1, 77}) {
		t.Errorf("the round has become %v", spots)
	}
}
