package tests

import (
	"math"
	"math/big"
	"testing"

	"loop.example/helpersinreach/impl"
)

// notLoads are no loads, each for one reason.
var notLoads = []load{
	{-1, 1}, {11, 1}, {-1, 10}, {11, 10}, {0, 0}, {1, 0}, {10, 0}, {0, -1}, {1, -1}, {10, 11}, {0, 11}, {-1, -1}, {-1, 0}, {11, 11}, {11, 0},
	{math.MinInt, 1}, {math.MaxInt, 1}, {1, math.MinInt}, {1, math.MaxInt}, {math.MinInt, math.MinInt}, {math.MaxInt, math.MaxInt}, {0, math.MinInt},
}

// notBusy are no numbers of helpers of which some are busy.
var notBusy = []int{-1, -2, impl.MaxBusy + 1, impl.MaxBusy + 2, 100, math.MinInt, math.MaxInt}

// byBusy are the functions of a load and of helpers that return a fraction.
var byBusy = map[string]func(int, int, int) (impl.Frac, bool){
	"LostStep": impl.LostStep,
	"MeanBusy": impl.MeanBusy,
	"BusyShare of none": func(up int, down int, k int) (impl.Frac, bool) {
		return impl.BusyShare(up, down, k, 0)
	},
	"BusyShare of all": func(up int, down int, k int) (impl.Frac, bool) {
		return impl.BusyShare(up, down, k, k)
	},
}

// share returns BusyShare, which must be there.
func share(t *testing.T, l load, k int, j int) impl.Frac {
	t.Helper()
	f, ok := impl.BusyShare(l.up, l.down, k, j)
	return there(t, f, ok, "BusyShare", l, k)
}

// lost returns LostStep, which must be there.
func lost(t *testing.T, l load, k int) impl.Frac {
	t.Helper()
	f, ok := impl.LostStep(l.up, l.down, k)
	return there(t, f, ok, "LostStep", l, k)
}

// mean returns MeanBusy, which must be there.
func mean(t *testing.T, l load, k int) impl.Frac {
	t.Helper()
	f, ok := impl.MeanBusy(l.up, l.down, k)
	return there(t, f, ok, "MeanBusy", l, k)
}

// there returns a fraction that must be there, not negative and in lowest terms.
func there(t *testing.T, f impl.Frac, ok bool, name string, l load, k int) impl.Frac {
	t.Helper()
	if !ok || f.Up < 0 || f.Down < 1 || f != fracOfRat(ratOf(f)) {
		t.Fatalf("%s(%v, %d) = %v, %v", name, l, k, f, ok)
	}
	return f
}

func TestBusyConstants(t *testing.T) {
	if impl.MaxLoad != 10 || impl.MaxBusy != 5 {
		t.Error("limits of busy helpers")
	}
}

func TestNotLoads(t *testing.T) {
	for _, l := range notLoads {
		for k := range impl.MaxBusy + 1 {
			checkNoFractions(t, l, k)
		}
		for many := range impl.MaxPlace + 2 {
			if got := impl.HelpersFor(l.up, l.down, many); got != -1 {
				t.Errorf("HelpersFor(%v, %d) = %d", l, many, got)
			}
		}
	}
}

func TestNotBusy(t *testing.T) {
	for _, k := range notBusy {
		for _, l := range append(allLoads(), notLoads...) {
			checkNoFractions(t, l, k)
		}
	}
}

// checkNoFractions checks that there is no fraction of a load and of helpers.
func checkNoFractions(t *testing.T, l load, k int) {
	t.Helper()
	for name, f := range byBusy {
		if got, ok := f(l.up, l.down, k); ok || got != (impl.Frac{}) {
			t.Errorf("%s(%v, %d) = %v, %v", name, l, k, got, ok)
		}
	}
}

func TestMoreBusyThanHelpers(t *testing.T) {
	eachBusy(func(l load, k int) {
		for _, j := range []int{-1, -2, k + 1, k + 2, impl.MaxBusy + 1, math.MinInt, math.MaxInt} {
			if got, ok := impl.BusyShare(l.up, l.down, k, j); ok || got != (impl.Frac{}) {
				t.Fatalf("BusyShare(%v, %d, %d) = %v, %v", l, k, j, got, ok)
			}
		}
	})
}

func TestNotInSoMany(t *testing.T) {
	for _, l := range allLoads() {
		for _, many := range []int{0, -1, -50, impl.MaxPlace + 1, impl.MaxPlace + 2, math.MinInt, math.MaxInt} {
			if got := impl.HelpersFor(l.up, l.down, many); got != -1 {
				t.Fatalf("HelpersFor(%v, %d) = %d", l, many, got)
			}
		}
	}
}

func TestSharesByHand(t *testing.T) {
	for _, c := range []struct {
		l      load
		shares []impl.Frac
		mean   impl.Frac
	}{
		{load{1, 1}, []impl.Frac{{Up: 1, Down: 1}}, impl.Frac{Up: 0, Down: 1}},
		{load{1, 1}, []impl.Frac{{Up: 1, Down: 2}, {Up: 1, Down: 2}}, impl.Frac{Up: 1, Down: 2}},
		{load{1, 1}, []impl.Frac{{Up: 2, Down: 5}, {Up: 2, Down: 5}, {Up: 1, Down: 5}}, impl.Frac{Up: 4, Down: 5}},
		{load{1, 1}, []impl.Frac{{Up: 3, Down: 8}, {Up: 3, Down: 8}, {Up: 3, Down: 16}, {Up: 1, Down: 16}}, impl.Frac{Up: 15, Down: 16}},
		{load{2, 1}, []impl.Frac{{Up: 1, Down: 3}, {Up: 2, Down: 3}}, impl.Frac{Up: 2, Down: 3}},
		{load{3, 2}, []impl.Frac{{Up: 2, Down: 5}, {Up: 3, Down: 5}}, impl.Frac{Up: 3, Down: 5}},
		{load{1, 2}, []impl.Frac{{Up: 8, Down: 13}, {Up: 4, Down: 13}, {Up: 1, Down: 13}}, impl.Frac{Up: 6, Down: 13}},
		{load{10, 1}, []impl.Frac{{Up: 1, Down: 61}, {Up: 10, Down: 61}, {Up: 50, Down: 61}}, impl.Frac{Up: 110, Down: 61}},
		{load{1, 10}, []impl.Frac{{Up: 10, Down: 11}, {Up: 1, Down: 11}}, impl.Frac{Up: 1, Down: 11}},
		{load{6, 3}, []impl.Frac{{Up: 1, Down: 5}, {Up: 2, Down: 5}, {Up: 2, Down: 5}}, impl.Frac{Up: 6, Down: 5}},
	} {
		k := len(c.shares) - 1
		for j, want := range c.shares {
			if got := share(t, c.l, k, j); got != want {
				t.Errorf("BusyShare(%v, %d, %d) = %v, not %v", c.l, k, j, got, want)
			}
		}
		if got := lost(t, c.l, k); got != c.shares[k] {
			t.Errorf("LostStep(%v, %d) = %v, not %v", c.l, k, got, c.shares[k])
		}
		if got := mean(t, c.l, k); got != c.mean {
			t.Errorf("MeanBusy(%v, %d) = %v, not %v", c.l, k, got, c.mean)
		}
	}
}

func TestHelpersForByHand(t *testing.T) {
	for _, c := range []struct {
		l    load
		many int
		want int
	}{
		// Of the load 1 the shares that are lost are 1, 1/2, 1/5, 1/16 and 1/65.
		{load{1, 1}, 1, 0}, {load{1, 1}, 2, 1}, {load{1, 1}, 3, 2}, {load{1, 1}, 5, 2}, {load{1, 1}, 6, 3}, {load{1, 1}, 16, 3}, {load{1, 1}, 17, 4}, {load{1, 1}, 50, 4}, {load{10, 10}, 6, 3},
		// Of the load 2 they are 1, 2/3, 2/5, 4/19, 2/21 and 4/109.
		{load{2, 1}, 1, 0}, {load{2, 1}, 2, 2}, {load{2, 1}, 3, 3}, {load{2, 1}, 4, 3}, {load{2, 1}, 5, 4}, {load{2, 1}, 10, 4}, {load{2, 1}, 11, 5}, {load{2, 1}, 27, 5}, {load{2, 1}, 28, -1}, {load{2, 1}, 50, -1},
		// So many calls that five helpers lose more than each second one.
		{load{10, 1}, 1, 0}, {load{10, 1}, 2, -1}, {load{10, 1}, 50, -1},
		// Without calls one helper loses none.
		{load{0, 1}, 1, 0}, {load{0, 1}, 2, 1}, {load{0, 10}, 50, 1},
		// With the load 1/10 the first helper loses each eleventh call.
		{load{1, 10}, 10, 1}, {load{1, 10}, 11, 1}, {load{1, 10}, 12, 2},
	} {
		if got := impl.HelpersFor(c.l.up, c.l.down, c.many); got != c.want {
			t.Errorf("HelpersFor(%v, %d) = %d, not %d", c.l, c.many, got, c.want)
		}
	}
}

func TestNoHelpers(t *testing.T) {
	for _, l := range allLoads() {
		all, none := impl.Frac{Up: 1, Down: 1}, impl.Frac{Up: 0, Down: 1}
		if share(t, l, 0, 0) != all || lost(t, l, 0) != all || mean(t, l, 0) != none {
			t.Errorf("no helpers for %v: %v, %v, %v", l, share(t, l, 0, 0), lost(t, l, 0), mean(t, l, 0))
		}
		if got := impl.HelpersFor(l.up, l.down, 1); got != 0 {
			t.Errorf("HelpersFor(%v, 1) = %d", l, got)
		}
	}
}

func TestNoCalls(t *testing.T) {
	all, none := impl.Frac{Up: 1, Down: 1}, impl.Frac{Up: 0, Down: 1}
	for down := 1; down <= impl.MaxLoad; down++ {
		l := load{0, down}
		for k := 1; k <= impl.MaxBusy; k++ {
			if share(t, l, k, 0) != all || lost(t, l, k) != none || mean(t, l, k) != none {
				t.Errorf("no calls for %d: %v, %v, %v", k, share(t, l, k, 0), lost(t, l, k), mean(t, l, k))
			}
			for j := 1; j <= k; j++ {
				if got := share(t, l, k, j); got != none {
					t.Errorf("BusyShare(%v, %d, %d) = %v", l, k, j, got)
				}
			}
		}
	}
}

// BusyShare and MeanBusy are of the sum of all terms, with all busy as well.
func TestSharesAreOfTerms(t *testing.T) {
	eachBusy(func(l load, k int) {
		shares := sharesByTerms(l, k)
		for j, want := range shares {
			if got := share(t, l, k, j); got != fracOfRat(want) {
				t.Fatalf("BusyShare(%v, %d, %d) = %v, not %v", l, k, j, got, want)
			}
		}
		if got, want := lost(t, l, k), shares[k]; got != fracOfRat(want) {
			t.Fatalf("LostStep(%v, %d) = %v, not %v", l, k, got, want)
		}
		if got, want := mean(t, l, k), meanOfShares(shares); got != fracOfRat(want) {
			t.Fatalf("MeanBusy(%v, %d) = %v, not %v", l, k, got, want)
		}
	})
}

// As often as one helper more becomes busy, one of them becomes free.
func TestSharesAreInBalance(t *testing.T) {
	eachBusy(func(l load, k int) {
		for j := range k {
			more := new(big.Rat).Mul(ratOf(share(t, l, k, j)), l.ratio())
			fewer := new(big.Rat).Mul(ratOf(share(t, l, k, j+1)), big.NewRat(int64(j+1), 1))
			if more.Cmp(fewer) != 0 {
				t.Fatalf("BusyShare(%v, %d) from %d to %d busy: %v, back %v", l, k, j, j+1, more, fewer)
			}
		}
	})
}

// Promise 32.
func TestAllSharesAreOne(t *testing.T) {
	eachBusy(func(l load, k int) {
		sum := new(big.Rat)
		for j := range k + 1 {
			sum.Add(sum, ratOf(share(t, l, k, j)))
		}
		if sum.Cmp(big.NewRat(1, 1)) != 0 {
			t.Fatalf("BusyShare(%v, %d) of all numbers are %v", l, k, sum)
		}
		if all, step := share(t, l, k, k), lost(t, l, k); all != step {
			t.Fatalf("BusyShare(%v, %d, %d) = %v, LostStep = %v", l, k, k, all, step)
		}
	})
}

// Promise 33.
func TestOneHelperMoreLosesLess(t *testing.T) {
	eachBusy(func(l load, k int) {
		step := lost(t, l, k)
		if all := share(t, l, k, k); step != all {
			t.Fatalf("LostStep(%v, %d) = %v, BusyShare of all = %v", l, k, step, all)
		}
		if k == impl.MaxBusy {
			return
		}
		if more := lost(t, l, k+1); ratOf(more).Cmp(ratOf(step)) > 0 {
			t.Fatalf("LostStep(%v, %d) = %v, with one helper more %v", l, k, step, more)
		}
	})
}

// Promise 34.
func TestWhoIsBusyTookWhatWasNotLost(t *testing.T) {
	eachBusy(func(l load, k int) {
		taken := new(big.Rat).Sub(big.NewRat(1, 1), ratOf(lost(t, l, k)))
		taken.Mul(taken, l.ratio())
		if got := mean(t, l, k); ratOf(got).Cmp(taken) != 0 {
			t.Fatalf("MeanBusy(%v, %d) = %v, taken are %v", l, k, got, taken)
		}
	})
}

// Promise 35, and that there are not enough helpers just where all of them lose more.
func TestEnoughIsEnoughAndNoFewer(t *testing.T) {
	for _, l := range allLoads() {
		for many := 1; many <= impl.MaxPlace; many++ {
			limit := big.NewRat(1, int64(many))
			k := impl.HelpersFor(l.up, l.down, many)
			if k < -1 || k > impl.MaxBusy {
				t.Fatalf("HelpersFor(%v, %d) = %d", l, many, k)
			}
			if k >= 0 && ratOf(lost(t, l, k)).Cmp(limit) > 0 {
				t.Fatalf("HelpersFor(%v, %d) = %d, which lose %v", l, many, k, lost(t, l, k))
			}
			if k > 0 && ratOf(lost(t, l, k-1)).Cmp(limit) <= 0 {
				t.Fatalf("HelpersFor(%v, %d) = %d, one fewer lose %v", l, many, k, lost(t, l, k-1))
			}
			if k == -1 && ratOf(lost(t, l, impl.MaxBusy)).Cmp(limit) <= 0 {
				t.Fatalf("HelpersFor(%v, %d) = -1, all lose %v", l, many, lost(t, l, impl.MaxBusy))
			}
		}
	}
}

// HelpersFor is the least of all numbers of helpers.
func TestHelpersForOfAll(t *testing.T) {
	for _, l := range allLoads() {
		for many := 1; many <= impl.MaxPlace; many++ {
			if got, want := impl.HelpersFor(l.up, l.down, many), enoughOfAll(l, many); got != want {
				t.Fatalf("HelpersFor(%v, %d) = %d, not %d", l, many, got, want)
			}
		}
	}
}

// Promise 71.
func TestTwiceTheLoadLosesMore(t *testing.T) {
	eachBusy(func(l load, k int) {
		if 2*l.up > impl.MaxLoad {
			return
		}
		one, two := lost(t, l, k), lost(t, load{2 * l.up, l.down}, k)
		if ratOf(two).Cmp(ratOf(one)) < 0 {
			t.Fatalf("LostStep(%v, %d) = %v, of twice as many calls %v", l, k, one, two)
		}
	})
}

// The same load in other numbers has the same fractions.
func TestLoadsMayBeMultiplied(t *testing.T) {
	eachBusy(func(l load, k int) {
		for times := 2; times*max(l.up, l.down) <= impl.MaxLoad; times++ {
			same := load{times * l.up, times * l.down}
			if lost(t, l, k) != lost(t, same, k) || mean(t, l, k) != mean(t, same, k) {
				t.Fatalf("%v and %v with %d helpers", l, same, k)
			}
			for j := range k + 1 {
				if share(t, l, k, j) != share(t, same, k, j) {
					t.Fatalf("BusyShare(%v, %d, %d) is not that of %v", l, k, j, same)
				}
			}
		}
	})
}

// The conventions: results do not change from call to call.
func TestBusyKeepsNothing(t *testing.T) {
	for range 20 {
		if lost(t, load{2, 1}, 5) != (impl.Frac{Up: 4, Down: 109}) || mean(t, load{2, 1}, 5) != (impl.Frac{Up: 210, Down: 109}) {
			t.Fatal("fractions of the load 2 change")
		}
		if share(t, load{1, 2}, 2, 1) != (impl.Frac{Up: 4, Down: 13}) || impl.HelpersFor(2, 1, 11) != 5 {
			t.Fatal("fractions of the load 1/2, or the helpers for 2, change")
		}
	}
}
