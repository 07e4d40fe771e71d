package tests

import (
	"math"
	"slices"
	"testing"

	"loop.example/helpersinreach/impl"
)

// treeByFar are the functions of a tree and how far.
var treeByFar = map[string]func([]impl.Road, int) int{"TreeCover": impl.TreeCover, "TreeApart": impl.TreeApart}

// notTrees are lists that are no trees, each for one reason.
var notTrees = [][]impl.Road{
	nil, {}, {{}}, {{To: -2}}, {{To: 1}}, {{To: -1, Long: 1}}, {{To: -1, Long: -1}},
	{{To: -1}, {To: -1}}, {{To: -1}, {To: -1, Long: 1}}, {{To: -1}, {To: 1, Long: 1}}, {{To: -1}, {To: 2, Long: 1}, {To: 0, Long: 1}},
	{{To: -1}, {To: 0}}, {{To: -1}, {To: 0, Long: -1}}, {{To: -1}, {To: 0, Long: impl.MaxLong + 1}},
	{{To: -1}, {To: 0, Long: 1}, {To: 2, Long: 1}}, {{To: -1}, {To: 0, Long: 1}, {To: 3, Long: 1}}, {{To: -1}, {To: 0, Long: 1}, {To: 1}},
	{{To: 1, Long: 1}, {To: -1}}, {{To: math.MinInt}}, {{To: -1, Long: math.MaxInt}},
	{{To: -1}, {To: math.MinInt, Long: 1}}, {{To: -1}, {To: math.MaxInt, Long: 1}}, {{To: -1}, {To: 0, Long: math.MinInt}}, {{To: -1}, {To: 0, Long: math.MaxInt}},
	append([]impl.Road{{To: -1}}, slices.Repeat([]impl.Road{{To: 0, Long: 1}}, impl.MaxNodes)...),
	append([]impl.Road{{To: -1}}, slices.Repeat([]impl.Road{{To: 0, Long: 1}}, 1000)...),
}

// bush is a tree with several parts: 0 - 1 by 4, 0 - 2 by 1, 2 - 3 by 3, 2 - 4 by 2, and 4 - 5 by 9.
var bush = []impl.Road{{To: -1}, {To: 0, Long: 4}, {To: 0, Long: 1}, {To: 2, Long: 3}, {To: 2, Long: 2}, {To: 4, Long: 9}}

func TestTreeConstants(t *testing.T) {
	if impl.MaxNodes != 7 || impl.MaxLong != 9 || impl.MaxFolk != 20 {
		t.Error("limits of trees")
	}
}

func TestValidTree(t *testing.T) {
	for _, tree := range append(manyTrees(), bush) {
		if !impl.ValidTree(tree) {
			t.Fatalf("ValidTree(%v) is false", tree)
		}
	}
	for _, tree := range notTrees {
		if impl.ValidTree(tree) {
			t.Errorf("ValidTree(%v) is true", tree)
		}
	}
}

// Promise 7: also the node 0 alone is a tree, but nothing is none.
func TestTreesMayBeCut(t *testing.T) {
	for _, tree := range manyTrees() {
		for n := 1; n <= len(tree); n++ {
			if !impl.ValidTree(tree[:n]) {
				t.Fatalf("ValidTree(%v) is false", tree[:n])
			}
		}
	}
}

func TestNotTrees(t *testing.T) {
	for _, tree := range notTrees {
		if got := impl.TreeTable(tree); got != nil {
			t.Errorf("TreeTable(%v) = %v", tree, got)
		}
		folk := make([]int, len(tree))
		if got := impl.TreeSum(tree, folk, 0); got != -1 {
			t.Errorf("TreeSum(%v) = %d", tree, got)
		}
		if got := impl.TreeMiddle(tree, folk); got != -1 {
			t.Errorf("TreeMiddle(%v) = %d", tree, got)
		}
		for name, f := range treeByFar {
			for _, far := range []int{-1, 0, 9, impl.MaxPlace, impl.MaxPlace + 1} {
				if got := f(tree, far); got != -1 {
					t.Errorf("%s(%v, %d) = %d", name, tree, far, got)
				}
			}
		}
	}
}

func TestInvalidFolk(t *testing.T) {
	for _, folk := range [][]int{
		nil, {}, {1, 1, 1, 1, 1}, {1, 1, 1, 1, 1, 1, 1}, {-1, 1, 1, 1, 1, 1}, {1, 1, 1, 1, 1, -1}, {1, 1, impl.MaxFolk + 1, 1, 1, 1},
		{1, 1, 1, 1, 1, impl.MaxFolk + 1}, {0, 0, 0, 0, 0, math.MinInt}, {math.MaxInt, 0, 0, 0, 0, 0}, {math.MaxInt, math.MaxInt, 2, 0, 0, 0}, make([]int, 1000),
	} {
		if got := impl.TreeMiddle(bush, folk); got != -1 {
			t.Errorf("TreeMiddle(%v) = %d", folk, got)
		}
		for _, at := range []int{-1, 0, 5, 6} {
			if got := impl.TreeSum(bush, folk, at); got != -1 {
				t.Errorf("TreeSum(%v, %d) = %d", folk, at, got)
			}
		}
	}
	for _, at := range []int{math.MinInt, -1, len(bush), len(bush) + 1, math.MaxInt} {
		if got := impl.TreeSum(bush, make([]int, len(bush)), at); got != -1 {
			t.Errorf("TreeSum at %d = %d", at, got)
		}
	}
}

func TestInvalidFar(t *testing.T) {
	for name, f := range treeByFar {
		for _, far := range []int{math.MinInt, -1, impl.MaxPlace + 1, math.MaxInt} {
			for _, tree := range [][]impl.Road{{{To: -1}}, bush} {
				if got := f(tree, far); got != -1 {
					t.Errorf("%s(%v, %d) = %d", name, tree, far, got)
				}
			}
		}
	}
}

func TestOneNode(t *testing.T) {
	one := []impl.Road{{To: -1}}
	if got := impl.TreeTable(one); !sameRows(got, [][]int{{0}}) {
		t.Errorf("TreeTable of one node = %v", got)
	}
	for people := range impl.MaxFolk + 1 {
		if sum, middle := impl.TreeSum(one, []int{people}, 0), impl.TreeMiddle(one, []int{people}); sum != 0 || middle != 0 {
			t.Errorf("TreeSum of one node = %d, TreeMiddle = %d", sum, middle)
		}
	}
	for far := range impl.MaxPlace + 1 {
		for name, f := range treeByFar {
			if got := f(one, far); got != 1 {
				t.Errorf("%s of one node, %d = %d", name, far, got)
			}
		}
	}
}

func TestTreesByHand(t *testing.T) {
	want := [][]int{{0, 4, 1, 4, 3, 12}, {4, 0, 5, 8, 7, 16}, {1, 5, 0, 3, 2, 11}, {4, 8, 3, 0, 5, 14}, {3, 7, 2, 5, 0, 9}, {12, 16, 11, 14, 9, 0}}
	if got := impl.TreeTable(bush); !sameRows(got, want) {
		t.Errorf("TreeTable = %v", got)
	}
	for at, want := range []int{67, 103, 62, 77, 64, 91} {
		if got := impl.TreeSum(bush, []int{2, 1, 0, 3, 1, 4}, at); got != want {
			t.Errorf("TreeSum at %d = %d, not %d", at, got, want)
		}
	}
	for _, c := range []struct {
		folk   []int
		middle int
	}{
		{[]int{2, 1, 0, 3, 1, 4}, 2}, {[]int{1, 1, 1, 1, 1, 1}, 2}, {[]int{3, 3, 0, 3, 0, 3}, 0}, {[]int{0, 1, 1, 1, 1, 1}, 2},
		{[]int{0, 10, 0, 0, 0, 10}, 0}, {[]int{0, 10, 0, 0, 0, 11}, 5}, {[]int{0, 0, 0, 1, 0, 1}, 2}, {[]int{0, 0, 0, 0, 1, 1}, 4},
	} {
		if got := impl.TreeMiddle(bush, c.folk); got != c.middle {
			t.Errorf("TreeMiddle(%v) = %d, not %d", c.folk, got, c.middle)
		}
	}
	for _, c := range [][]int{{0, 6}, {1, 5}, {2, 4}, {3, 3}, {4, 2}, {8, 2}, {9, 1}, {impl.MaxPlace, 1}} {
		for name, f := range treeByFar {
			if got := f(bush, c[0]); got != c[1] {
				t.Errorf("%s(%d) = %d, not %d", name, c[0], got, c[1])
			}
		}
	}
}

func TestTreeTable(t *testing.T) {
	for _, tree := range manyTrees() {
		if got, want := impl.TreeTable(tree), tableOfTree(tree); !sameRows(got, want) {
			t.Fatalf("TreeTable(%v) = %v, not %v", tree, got, want)
		}
	}
}

// tableOfTree returns how far the nodes of a tree are from each other.
func tableOfTree(tree []impl.Road) [][]int {
	table := make([][]int, len(tree))
	for a := range tree {
		for b := range tree {
			table[a] = append(table[a], wayInTree(tree, a, b))
		}
	}
	return table
}

func sameRows(a [][]int, b [][]int) bool {
	return slices.EqualFunc(a, b, slices.Equal)
}

// Promise 9: the sums differ so, and are those of all ways, not only so far from each other.
func TestSumsGoOverRoads(t *testing.T) {
	for _, tree := range manyTrees() {
		for _, folk := range manyFolk(len(tree)) {
			for at, road := range tree {
				want, notBehind := 0, 0
				for home, people := range folk {
					want += people * wayInTree(tree, at, home)
					if isBehind(tree, home, at) {
						notBehind -= people
					} else {
						notBehind += people
					}
				}
				got := impl.TreeSum(tree, folk, at)
				if got != want {
					t.Fatalf("TreeSum(%v, %v, %d) = %d, not %d", tree, folk, at, got, want)
				}
				if at > 0 && got-impl.TreeSum(tree, folk, road.To) != road.Long*notBehind {
					t.Fatalf("TreeSum(%v, %v, %d) = %d, at the other end of its road %d", tree, folk, at, got, impl.TreeSum(tree, folk, road.To))
				}
			}
		}
	}
}

// Promise 10: no node has a lesser sum, and it is the first node without which no part has more than half.
func TestTheMiddleIsNearest(t *testing.T) {
	for _, tree := range manyTrees() {
		for _, folk := range manyFolk(len(tree)) {
			middle := impl.TreeMiddle(tree, folk)
			for at := range tree {
				if impl.TreeSum(tree, folk, at) < impl.TreeSum(tree, folk, middle) {
					t.Fatalf("TreeMiddle(%v, %v) = %d, but %d is nearer", tree, folk, middle, at)
				}
			}
			first := 0
			for !isMiddle(tree, folk, first) {
				first++
			}
			if middle != first {
				t.Fatalf("TreeMiddle(%v, %v) = %d, not %d", tree, folk, middle, first)
			}
		}
	}
}

// With all people at one node this is the middle; without people it is the first node.
func TestPeopleAtOneNode(t *testing.T) {
	for _, tree := range manyTrees() {
		for at := range tree {
			folk := make([]int, len(tree))
			if got := impl.TreeMiddle(tree, folk); got != 0 {
				t.Fatalf("TreeMiddle(%v) without people = %d", tree, got)
			}
			folk[at] = 1 + at
			if got := impl.TreeMiddle(tree, folk); got != at {
				t.Fatalf("TreeMiddle(%v, %v) = %d", tree, folk, got)
			}
			if got := impl.TreeSum(tree, folk, at); got != 0 {
				t.Fatalf("TreeSum(%v, %v, %d) = %d", tree, folk, at, got)
			}
		}
	}
}

// Promises 11 and 12, as far as they speak of trees: both numbers are those of all sets, and farther no greater.
func TestTreesAreCoveredApart(t *testing.T) {
	for _, tree := range manyTrees() {
		table := tableOfTree(tree)
		last := math.MaxInt
		for _, far := range someFar() {
			cover, apart := impl.TreeCover(tree, far), impl.TreeApart(tree, far)
			if fewest := fewestOfSets(table, far); cover != fewest || cover > last {
				t.Fatalf("TreeCover(%v, %d) = %d, not %d, nearer %d", tree, far, cover, fewest, last)
			}
			if most := mostOfSets(table, far); apart != most || apart != cover {
				t.Fatalf("TreeApart(%v, %d) = %d, not %d, TreeCover = %d", tree, far, apart, most, cover)
			}
			last = cover
		}
	}
}

func TestNoWayAndFarEnough(t *testing.T) {
	for _, tree := range manyTrees() {
		for name, f := range treeByFar {
			if got := f(tree, 0); got != len(tree) {
				t.Fatalf("%s(%v, 0) = %d", name, tree, got)
			}
			for far := farEnough(tree); far <= impl.MaxPlace; far++ {
				if got := f(tree, far); got != 1 {
					t.Fatalf("%s(%v, %d) = %d", name, tree, far, got)
				}
			}
			if far := farEnough(tree) - 1; far >= 0 && f(tree, far) < 2 {
				t.Fatalf("%s(%v, %d) = %d", name, tree, far, f(tree, far))
			}
		}
	}
}

// farEnough returns how far all nodes are at least from one of them.
func farEnough(tree []impl.Road) int {
	least := math.MaxInt
	for _, row := range tableOfTree(tree) {
		least = min(least, slices.Max(row))
	}
	return least
}

// Promise 63.
func TestLinesAreTrees(t *testing.T) {
	lists := allHomes([]int{0, 1, 2, 3, 5, 9, 11, 20}, impl.MaxNodes)
	lists = append(lists, []int{0, 9, 18, 27, 36, 45, 50}, []int{2, 3, 12, 21, 22, 31, 40}, []int{50}, []int{1, 2, 3, 4, 5, 6, 7})
	tried := 0
	for _, list := range lists {
		tree := rowOfHomes(list)
		if !impl.ValidTree(tree) {
			continue
		}
		tried++
		for far := range impl.MaxPlace + 1 {
			if inTree, onLine := impl.TreeApart(tree, far), impl.MostApart(list, far); onLine < 1 || inTree < onLine {
				t.Fatalf("TreeApart(%v, %d) = %d, MostApart(%v) = %d", tree, far, inTree, list, onLine)
			}
		}
	}
	if tried < 100 {
		t.Errorf("only %d lists are trees", tried)
	}
}

// rowOfHomes returns homes as a tree in a row, which is none without homes, and if two are at one place, or too far from each other.
func rowOfHomes(list []int) []impl.Road {
	tree := []impl.Road{}
	for i := range list {
		road := impl.Road{To: i - 1}
		if i > 0 {
			road.Long = list[i] - list[i-1]
		}
		tree = append(tree, road)
	}
	return tree
}

// The conventions: roads and people are not modified, also not behind their end, and results do not change from call to call.
func TestTreesKeepNothing(t *testing.T) {
	roads := slices.Clone(append(bush, impl.Road{To: 3, Long: 2}, impl.Road{To: 7, Long: 77}))
	people := []int{2, 1, 0, 3, 1, 4, 9, 99}
	tree, folk := roads[:6], people[:6]
	for range 20 {
		if got := impl.TreeSum(tree, folk, 1); got != 103 {
			t.Fatalf("TreeSum = %d", got)
		}
		if got := impl.TreeMiddle(tree, folk); got != 2 {
			t.Fatalf("TreeMiddle = %d", got)
		}
		if cover, apart := impl.TreeCover(tree, 2), impl.TreeApart(tree, 2); cover != 4 || apart != 4 {
			t.Fatalf("TreeCover = %d, TreeApart = %d", cover, apart)
		}
		table := impl.TreeTable(tree)
		if !sameRows(table, tableOfTree(bush)) {
			t.Fatalf("TreeTable = %v", table)
		}
		checkOwnMemory(t, table)
	}
	if !slices.Equal(roads, append(bush, impl.Road{To: 3, Long: 2}, impl.Road{To: 7, Long: 77})) || !slices.Equal(people, []int{2, 1, 0, 3, 1, 4, 9, 99}) {
		t.Errorf("roads have become %v, people %v", roads, people)
	}
}

// checkOwnMemory fills each row, and what is spare behind it, with its own number, and checks that no other row has it then.
func checkOwnMemory(t *testing.T, rows [][]int) {
	for i, row := range rows {
		for j := range row[:cap(row)] {
			row[:cap(row)][j] = -100 - i
		}
	}
	for i, row := range rows {
		for _, number := range row[:cap(row)] {
			if number != -100-i {
				t.Fatalf("rows share memory: %v", rows)
			}
		}
	}
}
