package tests

import (
	"math"
	"slices"
	"testing"

	"loop.example/helpersinreach/impl"
)

// gridByFar are the functions of a grid and how far.
var gridByFar = map[string]func(int, int, int) int{"GridCover": impl.GridCover, "GridApart": impl.GridApart}

// noFields are neither small grids nor closed ones; the last ones have few cells where the product overflows.
var noFields = []field{
	{0, 0}, {0, 1}, {1, 0}, {-1, 1}, {1, -1}, {-1, -1}, {-2, -2}, {0, 5}, {5, 0}, {0, math.MaxInt}, {math.MaxInt, 0},
	{impl.MaxRing + 1, 1}, {1, impl.MaxRing + 1}, {impl.MaxRing + 1, impl.MaxRing + 1}, {100, 1}, {1, 100},
	{math.MaxInt, 1}, {1, math.MaxInt}, {math.MinInt, 1}, {1, math.MinInt}, {math.MinInt, math.MinInt},
	{math.MaxInt, math.MaxInt}, {1 << 32, 1 << 32}, {1 << 62, 4}, {4, 1 << 62},
}

// notSmall are no small grids: too many columns or rows, and too many cells.
var notSmall = []field{
	{impl.MaxSide + 1, 1}, {1, impl.MaxSide + 1}, {10, 1}, {1, 10}, {7, 1}, {1, 7},
	{4, 3}, {3, 4}, {5, 3}, {3, 5}, {4, 4}, {5, 5}, {6, 6}, {10, 10},
}

// wrongSteps are no numbers of steps, and wrongRests no rests.
var (
	wrongSteps = []int{-1, -2, impl.MaxPlace + 1, impl.MaxPlace + 2, 1000, math.MinInt, math.MaxInt}
	wrongRests = []int{-1, -5, 5, 6, 10, 1000, math.MinInt, math.MaxInt}
)

func TestGridConstants(t *testing.T) {
	if impl.MaxSide != 5 || impl.MaxCells != 10 || impl.MaxRing != 10 {
		t.Error("limits of grids")
	}
}

func TestNoSmallGrids(t *testing.T) {
	for _, f := range append(notSmall, noFields...) {
		for _, far := range append([]int{0, 1, impl.MaxPlace}, wrongSteps...) {
			for name, number := range gridByFar {
				if got := number(f.w, f.h, far); got != -1 {
					t.Errorf("%s(%d, %d, %d) = %d", name, f.w, f.h, far, got)
				}
			}
			for _, cell := range []int{-1, 0, 1, 9} {
				if got := impl.BallOf(f.w, f.h, cell, far); got != nil {
					t.Errorf("BallOf(%d, %d, %d, %d) = %v", f.w, f.h, cell, far, got)
				}
			}
		}
	}
}

func TestNoClosedGrids(t *testing.T) {
	for _, f := range noFields {
		for at := range 5 {
			if got := impl.SlantCells(f.w, f.h, at); got != nil {
				t.Errorf("SlantCells(%d, %d, %d) = %v", f.w, f.h, at, got)
			}
		}
		for _, far := range append([]int{0, 1, impl.MaxPlace}, wrongSteps...) {
			for _, list := range [][]int{nil, {0}, {0, 1}, placesUpTo(10), placesUpTo(99), placesUpTo(120)} {
				if impl.IsPerfect(f.w, f.h, list, far) {
					t.Errorf("IsPerfect(%d, %d, %v, %d) is true", f.w, f.h, list, far)
				}
			}
		}
	}
}

func TestWrongCellsAndSteps(t *testing.T) {
	for _, f := range smallFields() {
		cells := f.w * f.h
		for _, far := range wrongSteps {
			for name, number := range gridByFar {
				if got := number(f.w, f.h, far); got != -1 {
					t.Errorf("%s(%d, %d, %d) = %d", name, f.w, f.h, far, got)
				}
			}
			for cell := range cells {
				if got := impl.BallOf(f.w, f.h, cell, far); got != nil {
					t.Errorf("BallOf(%d, %d, %d, %d) = %v", f.w, f.h, cell, far, got)
				}
			}
		}
		for _, cell := range []int{-1, -cells, cells, cells + 1, 1000, math.MinInt, math.MaxInt} {
			for _, far := range []int{0, 1, impl.MaxPlace} {
				if got := impl.BallOf(f.w, f.h, cell, far); got != nil {
					t.Errorf("BallOf(%d, %d, %d, %d) = %v", f.w, f.h, cell, far, got)
				}
			}
		}
	}
}

func TestWrongRests(t *testing.T) {
	for _, f := range ringFields() {
		for _, at := range wrongRests {
			if got := impl.SlantCells(f.w, f.h, at); got != nil {
				t.Errorf("SlantCells(%d, %d, %d) = %v", f.w, f.h, at, got)
			}
		}
	}
}

// Lists that would be perfect but for what is wrong with them: how far, a cell that is none, one twice, and the order.
func TestWrongLists(t *testing.T) {
	for _, f := range ringFields() {
		all := placesUpTo(f.w*f.h - 1)
		if !impl.IsPerfect(f.w, f.h, all, 0) || !impl.IsPerfect(f.w, f.h, []int{0}, impl.MaxPlace) {
			t.Fatalf("all cells of %v are not perfect for no step, or one for all steps", f)
		}
		for _, far := range wrongSteps {
			for _, list := range [][]int{nil, {0}, all} {
				if impl.IsPerfect(f.w, f.h, list, far) {
					t.Errorf("IsPerfect(%d, %d, %v, %d) is true", f.w, f.h, list, far)
				}
			}
		}
		last := all[len(all)-1]
		for _, list := range [][]int{append([]int{-1}, all...), append(slices.Clone(all), last+1), append([]int{0}, all...), append(slices.Clone(all), last), slices.Repeat([]int{0}, 1000)} {
			if impl.IsPerfect(f.w, f.h, list, 0) {
				t.Errorf("IsPerfect(%d, %d, %v, 0) is true", f.w, f.h, list)
			}
		}
		if len(all) > 1 && impl.IsPerfect(f.w, f.h, otherWay(all), 0) {
			t.Errorf("all cells of %v, the other way round, are perfect", f)
		}
		for _, cell := range []int{-1, last + 1, math.MinInt, math.MaxInt} {
			if impl.IsPerfect(f.w, f.h, []int{cell}, impl.MaxPlace) {
				t.Errorf("IsPerfect(%d, %d, {%d}, %d) is true", f.w, f.h, cell, impl.MaxPlace)
			}
		}
	}
}

func TestBallsByHand(t *testing.T) {
	for _, c := range []struct {
		f         field
		cell, far int
		near      []int
	}{
		{field{1, 1}, 0, 0, []int{0}}, {field{1, 1}, 0, 50, []int{0}},
		{field{3, 3}, 4, 0, []int{4}}, {field{3, 3}, 4, 1, []int{1, 3, 4, 5, 7}}, {field{3, 3}, 4, 2, placesUpTo(8)},
		{field{3, 3}, 0, 1, []int{0, 1, 3}}, {field{3, 3}, 2, 1, []int{1, 2, 5}}, {field{3, 3}, 8, 2, []int{2, 4, 5, 6, 7, 8}}, {field{3, 3}, 8, 3, []int{1, 2, 3, 4, 5, 6, 7, 8}}, {field{3, 3}, 8, 4, placesUpTo(8)},
		// The ends are not beside each other: neither those of one row, nor that of a row and the beginning of the next one.
		{field{5, 1}, 0, 1, []int{0, 1}}, {field{5, 1}, 4, 1, []int{3, 4}}, {field{5, 1}, 2, 1, []int{1, 2, 3}}, {field{1, 5}, 0, 1, []int{0, 1}}, {field{1, 5}, 3, 2, []int{1, 2, 3, 4}}, {field{5, 2}, 4, 1, []int{3, 4, 9}}, {field{5, 2}, 5, 1, []int{0, 5, 6}}, {field{2, 5}, 4, 1, []int{2, 4, 5, 6}}, {field{2, 5}, 4, 2, []int{0, 2, 3, 4, 5, 6, 7, 8}},
	} {
		if got := impl.BallOf(c.f.w, c.f.h, c.cell, c.far); !slices.Equal(got, c.near) {
			t.Errorf("BallOf(%d, %d, %d, %d) = %v, not %v", c.f.w, c.f.h, c.cell, c.far, got, c.near)
		}
	}
}

func TestGridsByHand(t *testing.T) {
	for _, c := range []struct {
		f                 field
		far, cover, apart int
	}{
		{field{1, 1}, 0, 1, 1}, {field{1, 1}, 50, 1, 1}, {field{2, 2}, 0, 4, 4}, {field{2, 2}, 1, 2, 1}, {field{2, 2}, 2, 1, 1},
		{field{3, 3}, 0, 9, 9}, {field{3, 3}, 1, 3, 2}, {field{3, 3}, 2, 1, 1}, {field{3, 2}, 1, 2, 2}, {field{3, 2}, 2, 1, 1},
		{field{4, 2}, 1, 3, 2}, {field{5, 2}, 0, 10, 10}, {field{5, 2}, 1, 3, 3}, {field{5, 2}, 2, 2, 2}, {field{5, 2}, 3, 1, 1}, {field{2, 5}, 1, 3, 3},
		{field{5, 1}, 1, 2, 2}, {field{5, 1}, 2, 1, 1}, {field{1, 4}, 1, 2, 2}, {field{1, 3}, 1, 1, 1},
	} {
		if cover, apart := impl.GridCover(c.f.w, c.f.h, c.far), impl.GridApart(c.f.w, c.f.h, c.far); cover != c.cover || apart != c.apart {
			t.Errorf("GridCover(%d, %d, %d) = %d, GridApart = %d, not %d and %d", c.f.w, c.f.h, c.far, cover, apart, c.cover, c.apart)
		}
	}
}

func TestPerfectByHand(t *testing.T) {
	for _, c := range []struct {
		f       field
		list    []int
		far     int
		perfect bool
	}{
		{field{5, 5}, []int{0, 8, 11, 19, 22}, 1, true}, {field{5, 5}, []int{0, 7, 14, 16, 23}, 1, true}, {field{5, 5}, []int{0, 8, 11, 19, 23}, 1, false}, {field{5, 5}, []int{0, 6, 12, 18, 24}, 1, false}, {field{5, 5}, []int{0, 8, 11, 19, 22}, 0, false}, {field{5, 5}, []int{0, 8, 11, 19, 22}, 2, false},
		{field{1, 1}, nil, 0, false}, {field{1, 1}, []int{0}, 0, true}, {field{1, 1}, []int{0}, 1, true}, {field{2, 1}, []int{0}, 1, true}, {field{2, 1}, []int{0, 1}, 1, false}, {field{2, 2}, []int{0}, 1, false}, {field{2, 2}, []int{0}, 2, true}, {field{2, 2}, []int{0, 3}, 1, false},
		// One row, and one column, go on round the end, but are not beside themselves.
		{field{3, 1}, []int{0}, 1, true}, {field{3, 1}, []int{2}, 1, true}, {field{1, 3}, []int{2}, 1, true}, {field{6, 1}, []int{0, 3}, 1, true}, {field{6, 1}, []int{2, 5}, 1, true}, {field{6, 1}, []int{1, 3}, 1, false}, {field{4, 1}, []int{0, 3}, 1, false}, {field{10, 1}, []int{0, 5}, 2, true}, {field{1, 10}, []int{4, 9}, 2, true}, {field{10, 1}, []int{0}, 4, false}, {field{10, 1}, []int{0}, 5, true},
		// Four columns of two rows: round the end, each covers its own row and the cell above or below it.
		{field{4, 2}, []int{0, 6}, 1, true}, {field{4, 2}, []int{0, 5}, 1, false}, {field{2, 4}, []int{0, 5}, 1, true}, {field{8, 2}, []int{0, 4, 10, 14}, 1, true}, {field{4, 4}, []int{0}, 4, true}, {field{4, 4}, []int{0}, 3, false}, {field{10, 10}, []int{0}, 10, true}, {field{10, 10}, []int{99}, 9, false},
	} {
		if got := impl.IsPerfect(c.f.w, c.f.h, c.list, c.far); got != c.perfect {
			t.Errorf("IsPerfect(%d, %d, %v, %d) = %v", c.f.w, c.f.h, c.list, c.far, got)
		}
	}
}

func TestSlantsByHand(t *testing.T) {
	for _, c := range []struct {
		f     field
		at    int
		cells []int
	}{
		{field{5, 5}, 0, []int{0, 8, 11, 19, 22}}, {field{5, 5}, 1, []int{1, 9, 12, 15, 23}}, {field{5, 5}, 4, []int{4, 7, 10, 18, 21}},
		{field{10, 1}, 0, []int{0, 5}}, {field{10, 1}, 4, []int{4, 9}}, {field{7, 2}, 1, []int{1, 6, 11}}, {field{1, 10}, 0, []int{0, 5}}, {field{1, 10}, 2, []int{1, 6}}, {field{1, 10}, 3, []int{4, 9}},
		// Grids without any such cell.
		{field{1, 1}, 0, []int{0}}, {field{1, 1}, 1, nil}, {field{1, 1}, 4, nil}, {field{2, 1}, 2, nil}, {field{1, 3}, 1, nil}, {field{2, 2}, 4, nil},
	} {
		if got := impl.SlantCells(c.f.w, c.f.h, c.at); !slices.Equal(got, c.cells) {
			t.Errorf("SlantCells(%d, %d, %d) = %v, not %v", c.f.w, c.f.h, c.at, got, c.cells)
		}
	}
}

// Promise 48, also that balls are of those cells that are reached step by step.
func TestNearIsNearBothWays(t *testing.T) {
	for _, f := range smallFields() {
		table := stepTable(f, besideOpen)
		for far := range impl.MaxPlace + 1 {
			for cell, row := range table {
				ball := impl.BallOf(f.w, f.h, cell, far)
				if !slices.Equal(ball, cellsWithin(row, far)) || far == 0 && !slices.Equal(ball, []int{cell}) {
					t.Fatalf("BallOf(%d, %d, %d, %d) = %v", f.w, f.h, cell, far, ball)
				}
				for _, other := range ball {
					if !slices.Contains(impl.BallOf(f.w, f.h, other, far), cell) {
						t.Fatalf("%d is one of BallOf(%d, %d, %d, %d), but not the other way round", other, f.w, f.h, cell, far)
					}
				}
			}
		}
	}
}

// Promises 49 and 50, and that from further away there are no more.
func TestGridsMayBeTurned(t *testing.T) {
	for _, f := range smallFields() {
		other := f.exchanged()
		nearer := f.w * f.h
		for far := range impl.MaxPlace + 1 {
			cover, apart := impl.GridCover(f.w, f.h, far), impl.GridApart(f.w, f.h, far)
			if apart < 1 || cover < apart || cover > nearer {
				t.Fatalf("GridCover(%d, %d, %d) = %d, nearer %d, GridApart = %d", f.w, f.h, far, cover, nearer, apart)
			}
			nearer = cover
			for name, number := range gridByFar {
				if a, b := number(f.w, f.h, far), number(other.w, other.h, far); a != b {
					t.Fatalf("%s(%d, %d, %d) = %d, with columns and rows exchanged %d", name, f.w, f.h, far, a, b)
				}
			}
		}
	}
}

// Promises 49 and 50: both are what they are of all sets of cells. Of no step each cell needs its own.
func TestGridsAreOfAllSets(t *testing.T) {
	for _, f := range smallFields() {
		table := stepTable(f, besideOpen)
		for far := range impl.MaxPlace + 1 {
			if got, want := impl.GridCover(f.w, f.h, far), fewestOfSets(table, far); got != want || far == 0 && got != f.w*f.h {
				t.Fatalf("GridCover(%d, %d, %d) = %d, not %d", f.w, f.h, far, got, want)
			}
			if got, want := impl.GridApart(f.w, f.h, far), mostOfSets(table, far); got != want || far == 0 && got != f.w*f.h {
				t.Fatalf("GridApart(%d, %d, %d) = %d, not %d", f.w, f.h, far, got, want)
			}
		}
	}
}

// checkPerfect checks that lists of cells are perfect just if they are by the table of steps, and returns how many are.
func checkPerfect(t *testing.T, plans []plan, far int) int {
	t.Helper()
	perfect := 0
	tables := map[field][][]int{}
	for _, p := range plans {
		if tables[p.f] == nil {
			tables[p.f] = stepTable(p.f, besideClosed)
		}
		want := isPerfectByTable(tables[p.f], p.list, far)
		if got := impl.IsPerfect(p.f.w, p.f.h, p.list, far); got != want {
			t.Fatalf("IsPerfect(%d, %d, %v, %d) = %v", p.f.w, p.f.h, p.list, far, got)
		}
		if want {
			perfect++
		}
	}
	return perfect
}

// Lists are perfect just if they are by the steps on the closed grid.
func TestPerfectIsByCounts(t *testing.T) {
	all, woven := allPlans(10), wovenPlans()
	for far := range 7 {
		if perfect := checkPerfect(t, all, far); perfect == 0 {
			t.Errorf("no list of few cells is perfect for %d steps", far)
		}
	}
	for _, far := range []int{0, 1, 2, 3, 4, 5, 9, 10, impl.MaxPlace} {
		if perfect := checkPerfect(t, woven, far); perfect == 0 {
			t.Errorf("no woven list is perfect for %d steps", far)
		}
	}
}

// Promise 51.
func TestPerfectCellsFill(t *testing.T) {
	wide := func(p plan) bool { return p.f.w >= 3 && p.f.h >= 3 }
	found := 0
	for _, p := range append(allPlans(12), wovenPlans()...) {
		if !wide(p) || !impl.IsPerfect(p.f.w, p.f.h, p.list, 1) {
			continue
		}
		found++
		if 5*len(p.list) != p.f.w*p.f.h {
			t.Fatalf("IsPerfect(%d, %d, %v, 1) is true", p.f.w, p.f.h, p.list)
		}
	}
	// On each of four grids there are five lists slanting to each side.
	if found != 40 {
		t.Errorf("%d lists are perfect for one step", found)
	}
	if perfect := checkPerfect(t, fiveOf25(), 1); perfect != 10 {
		t.Errorf("%d lists of five cells are perfect", perfect)
	}
}

// Promise 52, and that the cells are those of each row with the rest.
func TestSlantingCellsPartTheGrid(t *testing.T) {
	for _, f := range ringFields() {
		all := []int{}
		for at := range 5 {
			cells := impl.SlantCells(f.w, f.h, at)
			if !slices.Equal(cells, slantByRows(f, at)) {
				t.Fatalf("SlantCells(%d, %d, %d) = %v", f.w, f.h, at, cells)
			}
			if f.w%5 == 0 && f.h%5 == 0 && !impl.IsPerfect(f.w, f.h, cells, 1) {
				t.Fatalf("SlantCells(%d, %d, %d) = %v is not perfect", f.w, f.h, at, cells)
			}
			all = append(all, cells...)
		}
		slices.Sort(all)
		if !slices.Equal(all, placesUpTo(f.w*f.h-1)) {
			t.Fatalf("SlantCells of %v for all rests are %v", f, all)
		}
	}
}

// Promise 75.
func TestGridsAreNets(t *testing.T) {
	for _, f := range fieldsUpTo(impl.MaxSide, impl.MaxNodes) {
		a := netOfField(f)
		for far := range impl.MaxPlace + 1 {
			if got, want := impl.GridCover(f.w, f.h, far), impl.NetCover(a.n, a.list, far); want < 1 || got != want {
				t.Fatalf("GridCover(%d, %d, %d) = %d, NetCover = %d", f.w, f.h, far, got, want)
			}
			if got, want := impl.GridApart(f.w, f.h, far), impl.NetApart(a.n, a.list, far); want < 1 || got != want {
				t.Fatalf("GridApart(%d, %d, %d) = %d, NetApart = %d", f.w, f.h, far, got, want)
			}
		}
	}
}

// Promise 76, also for one column.
func TestRowsAreLines(t *testing.T) {
	for cells := 1; cells <= impl.MaxSide; cells++ {
		for far := range impl.MaxPlace + 1 {
			want := (cells + 2*far) / (2*far + 1)
			for name, number := range gridByFar {
				if row, column := number(cells, 1, far), number(1, cells, far); row != want || column != want {
					t.Errorf("%s(%d, 1, %d) = %d, for one column %d, not %d", name, cells, far, row, column, want)
				}
			}
		}
	}
}

// Promise 77, also for rows.
func TestPerfectCellsMayBeMoved(t *testing.T) {
	for _, p := range append(allPlans(9), wovenPlans()...) {
		for _, far := range []int{0, 1, 2, 3, impl.MaxPlace} {
			perfect := impl.IsPerfect(p.f.w, p.f.h, p.list, far)
			for _, moved := range [][]int{movedByColumn(p.f, p.list), movedByRow(p.f, p.list)} {
				if got := impl.IsPerfect(p.f.w, p.f.h, moved, far); got != perfect {
					t.Fatalf("IsPerfect(%d, %d, %v, %d) = %v, of %v %v", p.f.w, p.f.h, p.list, far, perfect, moved, got)
				}
			}
		}
	}
}

// The conventions: cells are not modified, also not behind their end, results are new memory and do not change from call to call.
func TestGridsKeepNothing(t *testing.T) {
	memory := []int{0, 8, 11, 19, 22, 77, 88}
	list := memory[:5]
	for range 20 {
		ball, slant := impl.BallOf(3, 3, 0, 1), impl.SlantCells(5, 5, 0)
		again, other := impl.BallOf(3, 3, 0, 1), impl.SlantCells(5, 5, 0)
		for _, cells := range [][]int{ball, again} {
			if !slices.Equal(cells, []int{0, 1, 3}) {
				t.Fatalf("BallOf = %v", cells)
			}
		}
		for _, cells := range [][]int{slant, other} {
			if !slices.Equal(cells, list) {
				t.Fatalf("SlantCells = %v", cells)
			}
		}
		if cover, apart := impl.GridCover(3, 3, 1), impl.GridApart(3, 3, 1); cover != 3 || apart != 2 {
			t.Fatalf("GridCover = %d, GridApart = %d", cover, apart)
		}
		if !impl.IsPerfect(5, 5, list, 1) || impl.IsPerfect(5, 5, list[:4], 1) {
			t.Fatalf("IsPerfect of %v", list)
		}
		checkOwnMemory(t, [][]int{ball, again, slant, other})
	}
	if !slices.Equal(memory, []int{0, 8, 11, 19, 22, 77, 88}) {
		t.Errorf("the cells have become %v", memory)
	}
}
