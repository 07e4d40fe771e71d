package tests

import (
	"math"
	"slices"
	"testing"

	"loop.example/helpersinreach/impl"
)

// byDistricts are the functions of streets and a number of districts.
var byDistricts = map[string]func([]int, int) int{"LeastGreatest": impl.LeastGreatest, "GreatestByParts": impl.GreatestByParts, "GreatestLeast": impl.GreatestLeast}

// notRows are no rows of streets, each for one reason.
var notRows = [][]int{
	// No street, and too many of them.
	nil, {}, make([]int, impl.MaxHomes+1), slices.Repeat([]int{impl.MaxFolk}, impl.MaxHomes+1), make([]int, 1000),
	// No number of people, alone, first, within and last.
	{-1}, {impl.MaxFolk + 1}, {-1, 3, 4}, {impl.MaxFolk + 1, 3, 4}, {3, -1, 4}, {3, impl.MaxFolk + 1, 4}, {3, 4, -1}, {3, 4, impl.MaxFolk + 1}, {0, 0, 0, 0, 0, 0, 0, 0, 0, -1}, {0, 0, 0, 0, 0, 0, 0, 0, 0, impl.MaxFolk + 1},
	{math.MinInt}, {math.MaxInt}, {math.MaxInt, math.MaxInt}, {math.MinInt, math.MaxInt, 1}, {20, -20}, {-1, 1}, {1, math.MinInt},
}

// wrongDistricts are no numbers of districts, and wrongMost no numbers of people that districts may have at most.
var (
	wrongDistricts = []int{0, -1, -2, impl.MaxHelpers + 1, impl.MaxHelpers + 2, impl.MaxHomes, 1000, math.MinInt, math.MaxInt}
	wrongMost      = []int{-1, -2, 1001, 1002, 2000, math.MinInt, math.MaxInt}
)

// checkNotCut checks that there are no districts of at most most people.
func checkNotCut(t *testing.T, list []int, most int) {
	t.Helper()
	if got := impl.FewestWards(list, most); got != -1 {
		t.Errorf("FewestWards(%v, %d) = %d", list, most, got)
	}
	if cuts, ok := impl.FirstCuts(list, most); cuts != nil || ok {
		t.Errorf("FirstCuts(%v, %d) = %v, %v", list, most, cuts, ok)
	}
}

func TestValidWards(t *testing.T) {
	for _, list := range append(manyRows(), []int{0}, []int{impl.MaxFolk}, []int{20, 0, 20, 0, 20, 0, 20, 0, 20, 0}) {
		if !impl.ValidWards(list) {
			t.Fatalf("ValidWards(%v) is false", list)
		}
	}
	for _, list := range notRows {
		if impl.ValidWards(list) {
			t.Errorf("ValidWards(%v) is true", list)
		}
	}
}

func TestNotRows(t *testing.T) {
	for _, list := range notRows {
		for name, f := range byDistricts {
			for _, k := range append(placesUpTo(impl.MaxHelpers), wrongDistricts...) {
				if got := f(list, k); got != -1 {
					t.Errorf("%s(%v, %d) = %d", name, list, k, got)
				}
			}
		}
		for _, most := range append([]int{0, 1, 20, 999, 1000}, wrongMost...) {
			checkNotCut(t, list, most)
		}
	}
}

func TestWrongNumbersOfDistrictsAndPeople(t *testing.T) {
	for _, list := range manyRows() {
		for name, f := range byDistricts {
			for _, k := range wrongDistricts {
				if got := f(list, k); got != -1 {
					t.Fatalf("%s(%v, %d) = %d", name, list, k, got)
				}
			}
		}
		for _, most := range wrongMost {
			checkNotCut(t, list, most)
		}
	}
}

// A street is never cut, so there are no districts of fewer people than there are in one of the streets.
func TestStreetsWithTooManyPeople(t *testing.T) {
	for _, list := range manyRows() {
		greatest := slices.Max(list)
		for most := range greatest {
			checkNotCut(t, list, most)
		}
		if fewest, cuts := impl.FewestWards(list, greatest), mustCut(t, list, greatest); fewest < 1 || len(cuts) >= len(list) {
			t.Fatalf("FewestWards(%v, %d) = %d, FirstCuts = %v", list, greatest, fewest, cuts)
		}
	}
}

// mustCut returns FirstCuts where there are districts.
func mustCut(t *testing.T, list []int, most int) []int {
	t.Helper()
	cuts, ok := impl.FirstCuts(list, most)
	if !ok {
		t.Fatalf("FirstCuts(%v, %d) is false", list, most)
	}
	return cuts
}

func TestCutsByHand(t *testing.T) {
	for _, c := range []struct {
		list []int
		most int
		cuts []int
	}{
		{[]int{3, 1, 4, 2, 5}, 5, []int{2, 3, 4}}, {[]int{3, 1, 4, 2, 5}, 6, []int{2, 4}}, {[]int{3, 1, 4, 2, 5}, 8, []int{3}}, {[]int{3, 1, 4, 2, 5}, 14, []int{4}}, {[]int{3, 1, 4, 2, 5}, 15, nil}, {[]int{3, 1, 4, 2, 5}, 1000, nil},
		// Each street its own district, and the first one, a middle one and the last one alone.
		{[]int{20, 20, 20}, 39, []int{1, 2}}, {[]int{20, 20, 20}, 40, []int{2}}, {[]int{9, 1, 1, 1}, 9, []int{1}}, {[]int{1, 9, 1}, 9, []int{1, 2}}, {[]int{1, 1, 9}, 9, []int{2}},
		{slices.Repeat([]int{20}, 10), 20, []int{1, 2, 3, 4, 5, 6, 7, 8, 9}}, {slices.Repeat([]int{20}, 10), 60, []int{3, 6, 9}}, {slices.Repeat([]int{20}, 10), 199, []int{9}}, {slices.Repeat([]int{20}, 10), 200, nil},
		// One street.
		{[]int{0}, 0, nil}, {[]int{0}, 1000, nil}, {[]int{20}, 20, nil},
		// Streets without people go with those ahead of them, also where these are as many as may be, and with those behind only at the beginning.
		{[]int{0, 0, 0}, 0, nil}, {[]int{5, 0, 5}, 5, []int{2}}, {[]int{5, 0, 0, 5, 0}, 5, []int{3}}, {[]int{0, 5, 0, 0, 5}, 9, []int{4}}, {[]int{0, 0, 5, 5, 0, 0}, 5, []int{3}}, {[]int{2, 0, 2, 0, 2}, 4, []int{4}},
	} {
		if got := mustCut(t, c.list, c.most); !slices.Equal(got, c.cuts) {
			t.Errorf("FirstCuts(%v, %d) = %v, not %v", c.list, c.most, got, c.cuts)
		}
		if got := impl.FewestWards(c.list, c.most); got != len(c.cuts)+1 {
			t.Errorf("FewestWards(%v, %d) = %d", c.list, c.most, got)
		}
	}
}

func TestGreatestAndLeastByHand(t *testing.T) {
	for _, c := range []struct {
		list     []int
		greatest []int // for 1..MaxHelpers districts
		least    []int
	}{
		{[]int{3, 1, 4, 2, 5}, []int{15, 8, 6, 5}, []int{15, 7, 4, 2}}, {[]int{7}, []int{7, 7, 7, 7}, []int{7, -1, -1, -1}}, {[]int{7, 2}, []int{9, 7, 7, 7}, []int{9, 2, -1, -1}}, {[]int{7, 2, 3}, []int{12, 7, 7, 7}, []int{12, 5, 2, -1}},
		{[]int{1, 2, 3, 4}, []int{10, 6, 4, 4}, []int{10, 4, 3, 1}}, {slices.Repeat([]int{20}, 10), []int{200, 100, 80, 60}, []int{200, 100, 60, 40}}, {[]int{20, 1, 1, 1, 20}, []int{43, 22, 20, 20}, []int{43, 21, 3, 1}},
		// Fewer than k districts are not enough for the least one, though they may be as good for the greatest one.
		{[]int{9, 1, 1, 1}, []int{12, 9, 9, 9}, []int{12, 3, 1, 1}}, {[]int{1, 9, 1}, []int{11, 10, 9, 9}, []int{11, 1, 1, -1}},
		// Streets without people, alone and with others.
		{[]int{0}, []int{0, 0, 0, 0}, []int{0, -1, -1, -1}}, {make([]int, 10), []int{0, 0, 0, 0}, []int{0, 0, 0, 0}}, {[]int{0, 5, 0}, []int{5, 5, 5, 5}, []int{5, 0, 0, -1}}, {[]int{5, 0, 0, 5}, []int{10, 5, 5, 5}, []int{10, 5, 0, 0}}, {[]int{0, 4, 0, 4, 0, 4}, []int{12, 8, 4, 4}, []int{12, 4, 4, 0}},
	} {
		for i := range impl.MaxHelpers {
			k := i + 1
			if a, b := impl.LeastGreatest(c.list, k), impl.GreatestByParts(c.list, k); a != c.greatest[i] || b != c.greatest[i] {
				t.Errorf("LeastGreatest(%v, %d) = %d, GreatestByParts = %d, not %d", c.list, k, a, b, c.greatest[i])
			}
			if got := impl.GreatestLeast(c.list, k); got != c.least[i] {
				t.Errorf("GreatestLeast(%v, %d) = %d, not %d", c.list, k, got, c.least[i])
			}
		}
	}
}

// All functions are what they are of all ways to cut streets.
func TestDistrictsAreOfAllCuttings(t *testing.T) {
	for _, list := range manyRows() {
		all := cuttingsOf(list)
		for k := 1; k <= impl.MaxHelpers; k++ {
			want := leastGreatestOfCuttings(all, k)
			if a, b := impl.LeastGreatest(list, k), impl.GreatestByParts(list, k); a != want || b != want {
				t.Fatalf("LeastGreatest(%v, %d) = %d, GreatestByParts = %d, not %d", list, k, a, b, want)
			}
			if got, want := impl.GreatestLeast(list, k), greatestLeastOfCuttings(all, k); got != want {
				t.Fatalf("GreatestLeast(%v, %d) = %d, not %d", list, k, got, want)
			}
		}
		for _, most := range someMost(list) {
			if got, want := impl.FewestWards(list, most), fewestOfCuttings(all, most); got != want {
				t.Fatalf("FewestWards(%v, %d) = %d, not %d", list, most, got, want)
			}
			cuts, ok := impl.FirstCuts(list, most)
			if want, found := latestOfCuttings(all, most); ok != found || !slices.Equal(cuts, want) {
				t.Fatalf("FirstCuts(%v, %d) = %v, %v, not %v, %v", list, most, cuts, ok, want, found)
			}
		}
	}
}

// Promise 42, also of lists that are no rows of streets.
func TestDistrictStreetsMayBeTurned(t *testing.T) {
	for _, list := range manyRows() {
		if !impl.ValidWards(otherWay(list)) {
			t.Fatalf("ValidWards(%v) is false the other way round", list)
		}
	}
	for _, list := range notRows {
		if impl.ValidWards(otherWay(list)) {
			t.Errorf("ValidWards(%v) is true the other way round", list)
		}
	}
}

// Promise 43.
func TestFewestDistrictsHaveCuts(t *testing.T) {
	for _, list := range manyRows() {
		ahead := len(list)
		for _, most := range someMost(list) {
			fewest := impl.FewestWards(list, most)
			if back := impl.FewestWards(otherWay(list), most); back != fewest {
				t.Fatalf("FewestWards(%v, %d) = %d, the other way round %d", list, most, fewest, back)
			}
			cuts, ok := impl.FirstCuts(list, most)
			if ok != (fewest != -1) || ok && fewest != len(cuts)+1 {
				t.Fatalf("FewestWards(%v, %d) = %d, FirstCuts = %v, %v", list, most, fewest, cuts, ok)
			}
			if fewest > ahead {
				t.Fatalf("FewestWards(%v, %d) = %d, of fewer people %d", list, most, fewest, ahead)
			}
			if ok {
				ahead = fewest
			}
		}
		if ahead != 1 {
			t.Fatalf("FewestWards(%v, 1000) = %d", list, ahead)
		}
	}
}

// Promise 44, and that of fewer people there are more districts, or none.
func TestDistrictsByMorePeopleAreDistrictsByParts(t *testing.T) {
	for _, list := range manyRows() {
		for k := 1; k <= impl.MaxHelpers; k++ {
			least := impl.LeastGreatest(list, k)
			if parts := impl.GreatestByParts(list, k); parts != least {
				t.Fatalf("LeastGreatest(%v, %d) = %d, GreatestByParts = %d", list, k, least, parts)
			}
			if least < slices.Max(list) {
				t.Fatalf("LeastGreatest(%v, %d) = %d", list, k, least)
			}
			if fewest := impl.FewestWards(list, least); fewest < 1 || fewest > k {
				t.Fatalf("LeastGreatest(%v, %d) = %d, with as many people FewestWards = %d", list, k, least, fewest)
			}
			if fewer := impl.FewestWards(list, least-1); fewer != -1 && fewer <= k {
				t.Fatalf("LeastGreatest(%v, %d) = %d, with one fewer FewestWards = %d", list, k, least, fewer)
			}
		}
	}
}

// Promise 45, and that one district more does not make it greater.
func TestDistrictsByPartsAreByMorePeople(t *testing.T) {
	for _, list := range manyRows() {
		ahead := peopleOf(list)
		for k := 1; k <= impl.MaxHelpers; k++ {
			parts := impl.GreatestByParts(list, k)
			if least, back := impl.LeastGreatest(list, k), impl.GreatestByParts(otherWay(list), k); parts != least || parts != back {
				t.Fatalf("GreatestByParts(%v, %d) = %d, the other way round %d, LeastGreatest = %d", list, k, parts, back, least)
			}
			if parts > ahead {
				t.Fatalf("GreatestByParts(%v, %d) = %d, of one fewer %d", list, k, parts, ahead)
			}
			ahead = parts
		}
	}
}

// Promise 46, and that there is none just if there are fewer streets than districts.
func TestGreatestLeastIsAtMostEven(t *testing.T) {
	for _, list := range manyRows() {
		for k := 1; k <= impl.MaxHelpers; k++ {
			least, back := impl.GreatestLeast(list, k), impl.GreatestLeast(otherWay(list), k)
			if least != back || (least == -1) != (len(list) < k) {
				t.Fatalf("GreatestLeast(%v, %d) = %d, the other way round %d", list, k, least, back)
			}
			if least*k > peopleOf(list) || least > impl.LeastGreatest(list, k) {
				t.Fatalf("GreatestLeast(%v, %d) = %d", list, k, least)
			}
		}
	}
}

// Promise 47.
func TestCutsLeaveNoOneOver(t *testing.T) {
	for _, list := range manyRows() {
		for most := slices.Max(list); most <= peopleOf(list)+1; most++ {
			cuts := mustCut(t, list, most)
			begin := 0
			for _, cut := range cuts {
				if cut <= begin || cut >= len(list) || peopleOf(list[begin:cut]) > most || peopleOf(list[begin:cut+1]) <= most {
					t.Fatalf("FirstCuts(%v, %d) = %v", list, most, cuts)
				}
				begin = cut
			}
			if peopleOf(list[begin:]) > most {
				t.Fatalf("FirstCuts(%v, %d) = %v", list, most, cuts)
			}
		}
	}
}

// Promise 74.
func TestOneDistrictIsAll(t *testing.T) {
	for _, list := range manyRows() {
		all, streets := peopleOf(list), len(list)
		if greatest, least := impl.LeastGreatest(list, 1), impl.GreatestLeast(list, 1); greatest != all || least != all {
			t.Fatalf("one district of %v: %d, %d", list, greatest, least)
		}
		if streets > impl.MaxHelpers {
			continue
		}
		if greatest, least := impl.LeastGreatest(list, streets), impl.GreatestLeast(list, streets); greatest != slices.Max(list) || least != slices.Min(list) {
			t.Fatalf("as many districts as streets of %v: %d, %d", list, greatest, least)
		}
	}
}

// With more districts than streets the greatest one is the greatest street, and there is no least one, as none may be empty.
func TestMoreDistrictsThanStreets(t *testing.T) {
	for _, list := range smallRows() {
		for k := len(list) + 1; k <= impl.MaxHelpers; k++ {
			if a, b := impl.LeastGreatest(list, k), impl.GreatestByParts(list, k); a != slices.Max(list) || b != slices.Max(list) {
				t.Fatalf("LeastGreatest(%v, %d) = %d, GreatestByParts = %d", list, k, a, b)
			}
			if got := impl.GreatestLeast(list, k); got != -1 {
				t.Fatalf("GreatestLeast(%v, %d) = %d", list, k, got)
			}
		}
	}
}

// The conventions: streets are not modified, also not behind their end, results are new memory and do not change from call to call.
func TestDistrictsKeepNothing(t *testing.T) {
	people := []int{3, 1, 4, 2, 5, 77, 88}
	streets := people[:5]
	for range 20 {
		cuts, others := mustCut(t, streets, 7), mustCut(t, streets, 5)
		if !slices.Equal(cuts, []int{2, 4}) || !slices.Equal(others, []int{2, 3, 4}) {
			t.Fatalf("FirstCuts = %v, %v", cuts, others)
		}
		if fewest, least := impl.FewestWards(streets, 7), impl.GreatestLeast(streets, 3); fewest != 3 || least != 4 || !impl.ValidWards(streets) {
			t.Fatalf("FewestWards = %d, GreatestLeast = %d", fewest, least)
		}
		if a, b := impl.LeastGreatest(streets, 3), impl.GreatestByParts(streets, 3); a != 6 || b != 6 {
			t.Fatalf("LeastGreatest = %d, GreatestByParts = %d", a, b)
		}
		checkOwnMemory(t, [][]int{cuts, others})
	}
	if !slices.Equal(people, []int{3, 1, 4, 2, 5, 77, 88}) {
		t.Errorf("the streets have become %v", people)
	}
}
