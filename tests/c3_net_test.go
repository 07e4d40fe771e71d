package tests

import (
	"math"
	"slices"
	"testing"

	"loop.example/helpersinreach/impl"
)

// netByFar are the functions of a net and how far.
var netByFar = map[string]func(int, []impl.Street, int) int{"NetCover": impl.NetCover, "NetApart": impl.NetApart}

// netTables are the functions of a net alone.
var netTables = map[string]func(int, []impl.Street) [][]int{"NetTable": impl.NetTable, "NetByMiddles": impl.NetByMiddles}

// notNets are no nets, each for one reason.
var notNets = []net{
	{0, nil}, {-1, nil}, {impl.MaxNodes + 1, nil}, {1000, nil}, {math.MinInt, nil}, {math.MaxInt, nil},
	{0, []impl.Street{{Long: 1}}}, {-1, []impl.Street{{Long: 1}}}, {impl.MaxNodes + 1, []impl.Street{{To: 7, Long: 1}}},
	{1, []impl.Street{{}}}, {2, []impl.Street{{To: 1}}}, {2, []impl.Street{{To: 1, Long: -1}}}, {2, []impl.Street{{To: 1, Long: impl.MaxLong + 1}}},
	{2, []impl.Street{{From: 2, Long: 1}}}, {2, []impl.Street{{To: 2, Long: 1}}}, {2, []impl.Street{{From: -1, Long: 1}}}, {2, []impl.Street{{To: -1, Long: 1}}},
	{2, []impl.Street{{To: 1, Long: 1}, {To: 1, Long: 2}, {To: 2, Long: 3}}}, {2, []impl.Street{{To: 1, Long: 1}, {From: 3, Long: 2}, {To: 1, Long: 3}}},
	{2, []impl.Street{{From: math.MinInt, Long: 1}}}, {2, []impl.Street{{From: math.MaxInt, Long: 1}}}, {2, []impl.Street{{To: math.MinInt, Long: 1}}},
	{2, []impl.Street{{To: math.MaxInt, Long: 1}}}, {2, []impl.Street{{To: 1, Long: math.MinInt}}}, {2, []impl.Street{{To: 1, Long: math.MaxInt}}},
	{2, slices.Repeat([]impl.Street{{To: 1, Long: 1}}, impl.MaxStreets+1)}, {7, slices.Repeat([]impl.Street{{To: 6, Long: 1}}, 1000)},
}

// town is a net in two pieces, with streets beside each other, one at a node alone, and one that is no shortest way.
var town = net{6, []impl.Street{
	{From: 1, To: 0, Long: 2}, {From: 1, To: 2, Long: 7}, {From: 2, To: 1, Long: 2}, {From: 0, To: 2, Long: 5},
	{From: 3, To: 2, Long: 3}, {From: 4, To: 4, Long: 9}, {From: 5, To: 4, Long: 1},
}}

// townTable is how far the nodes of the town are from each other.
func townTable() [][]int {
	return [][]int{{0, 2, 4, 7, -1, -1}, {2, 0, 2, 5, -1, -1}, {4, 2, 0, 3, -1, -1}, {7, 5, 3, 0, -1, -1}, {-1, -1, -1, -1, 0, 1}, {-1, -1, -1, -1, 1, 0}}
}

func TestNetConstants(t *testing.T) {
	if impl.MaxStreets != 12 {
		t.Error("limits of nets")
	}
}

func TestValidNet(t *testing.T) {
	most := slices.Repeat([]impl.Street{{From: 6, To: 0, Long: impl.MaxLong}}, impl.MaxStreets)
	for _, a := range append(manyNets(), town, net{impl.MaxNodes, most}, net{impl.MaxNodes, nil}, net{1, []impl.Street{}}) {
		if !impl.ValidNet(a.n, a.list) {
			t.Fatalf("ValidNet(%v) is false", a)
		}
	}
	for _, a := range notNets {
		if impl.ValidNet(a.n, a.list) {
			t.Errorf("ValidNet(%v) is true", a)
		}
	}
}

// Promise 13.
func TestNetsMayHaveFewerStreets(t *testing.T) {
	for _, a := range manyNets() {
		for streets := range len(a.list) + 1 {
			if !impl.ValidNet(a.n, a.list[:streets]) {
				t.Fatalf("ValidNet(%d, %v) is false", a.n, a.list[:streets])
			}
		}
	}
}

func TestNotNets(t *testing.T) {
	for _, a := range notNets {
		for name, f := range netTables {
			if got := f(a.n, a.list); got != nil {
				t.Errorf("%s(%v) = %v", name, a, got)
			}
		}
		for _, number := range []int{-1, 0, 1, impl.MaxHelpers, impl.MaxPlace, impl.MaxPlace + 1} {
			for name, f := range netByFar {
				if got := f(a.n, a.list, number); got != -1 {
					t.Errorf("%s(%v, %d) = %d", name, a, number, got)
				}
			}
			if got := impl.NetFar(a.n, a.list, number); got != -1 {
				t.Errorf("NetFar(%v, %d) = %d", a, number, got)
			}
			if got := impl.FarthestFirst(a.n, a.list, number); got != nil {
				t.Errorf("FarthestFirst(%v, %d) = %v", a, number, got)
			}
		}
	}
}

func TestWrongFarAndHelpersOfNets(t *testing.T) {
	for _, a := range []net{{1, nil}, town, ringOf(7, 3)} {
		for name, f := range netByFar {
			for _, far := range []int{math.MinInt, -1, impl.MaxPlace + 1, math.MaxInt} {
				if got := f(a.n, a.list, far); got != -1 {
					t.Errorf("%s(%v, %d) = %d", name, a, far, got)
				}
			}
		}
		for _, k := range []int{math.MinInt, -1, 0, impl.MaxHelpers + 1, math.MaxInt} {
			if got := impl.NetFar(a.n, a.list, k); got != -1 {
				t.Errorf("NetFar(%v, %d) = %d", a, k, got)
			}
			if got := impl.FarthestFirst(a.n, a.list, k); got != nil {
				t.Errorf("FarthestFirst(%v, %d) = %v", a, k, got)
			}
		}
	}
}

// One node has a way of 0 to itself, also with a street to itself.
func TestNetOfOneNode(t *testing.T) {
	for _, a := range []net{{1, nil}, {1, []impl.Street{{Long: 4}}}, {1, slices.Repeat([]impl.Street{{Long: 9}}, impl.MaxStreets)}} {
		for name, f := range netTables {
			if got := f(a.n, a.list); !sameRows(got, [][]int{{0}}) {
				t.Errorf("%s(%v) = %v", name, a, got)
			}
		}
		for far := range impl.MaxPlace + 1 {
			for name, f := range netByFar {
				if got := f(a.n, a.list, far); got != 1 {
					t.Errorf("%s(%v, %d) = %d", name, a, far, got)
				}
			}
		}
		for k := 1; k <= impl.MaxHelpers; k++ {
			if got := impl.NetFar(a.n, a.list, k); got != 0 {
				t.Errorf("NetFar(%v, %d) = %d", a, k, got)
			}
			if got := impl.FarthestFirst(a.n, a.list, k); !slices.Equal(got, []int{0}) {
				t.Errorf("FarthestFirst(%v, %d) = %v", a, k, got)
			}
		}
	}
}

func TestNetsByHand(t *testing.T) {
	for name, f := range netTables {
		if got := f(town.n, town.list); !sameRows(got, townTable()) {
			t.Errorf("%s of the town = %v", name, got)
		}
	}
	ring := ringOf(7, 1)
	for _, c := range []struct {
		a                 net
		far, cover, apart int
	}{
		{town, 0, 6, 6}, {town, 1, 5, 5}, {town, 2, 3, 3}, {town, 3, 3, 3}, {town, 4, 2, 2}, {town, impl.MaxPlace, 2, 2},
		{ring, 0, 7, 7}, {ring, 1, 3, 2}, {ring, 2, 2, 1}, {ring, 3, 1, 1}, {ring, impl.MaxPlace, 1, 1},
		{net{5, nil}, 0, 5, 5}, {net{5, nil}, impl.MaxPlace, 5, 5},
	} {
		if cover, apart := impl.NetCover(c.a.n, c.a.list, c.far), impl.NetApart(c.a.n, c.a.list, c.far); cover != c.cover || apart != c.apart {
			t.Errorf("NetCover(%v, %d) = %d, NetApart = %d, not %d and %d", c.a, c.far, cover, apart, c.cover, c.apart)
		}
	}
	for _, c := range []struct {
		a     net
		far   []int
		nodes []int
	}{
		{town, []int{-1, 4, 2, 2}, []int{0, 4, 3, 2}},
		{ring, []int{3, 2, 1, 1}, []int{0, 3, 5, 1}},
		{net{5, nil}, []int{-1, -1, -1, -1}, []int{0, 1, 2, 3}},
		{net{4, nil}, []int{-1, -1, -1, 0}, []int{0, 1, 2, 3}},
		{net{3, []impl.Street{{From: 2, To: 1, Long: 9}}}, []int{-1, 9, 0, 0}, []int{0, 1, 2}},
		{net{3, []impl.Street{{From: 0, To: 1, Long: 9}}}, []int{-1, 9, 0, 0}, []int{0, 2, 1}},
	} {
		for k := 1; k <= impl.MaxHelpers; k++ {
			if got := impl.NetFar(c.a.n, c.a.list, k); got != c.far[k-1] {
				t.Errorf("NetFar(%v, %d) = %d, not %d", c.a, k, got, c.far[k-1])
			}
			if got, want := impl.FarthestFirst(c.a.n, c.a.list, k), c.nodes[:min(k, len(c.nodes))]; !slices.Equal(got, want) {
				t.Errorf("FarthestFirst(%v, %d) = %v, not %v", c.a, k, got, want)
			}
		}
	}
}

// Of streets beside each other the shortest one counts, wherever it is in the list and whichever way it is written.
func TestStreetsBesideEachOther(t *testing.T) {
	for _, list := range [][]impl.Street{
		{{From: 0, To: 1, Long: 3}, {From: 0, To: 1, Long: 5}}, {{From: 0, To: 1, Long: 5}, {From: 0, To: 1, Long: 3}},
		{{From: 0, To: 1, Long: 5}, {From: 1, To: 0, Long: 3}}, {{From: 1, To: 0, Long: 3}, {From: 0, To: 1, Long: 5}, {From: 1, To: 0, Long: 9}},
	} {
		for name, f := range netTables {
			if got := f(2, list); !sameRows(got, [][]int{{0, 3}, {3, 0}}) {
				t.Errorf("%s(%v) = %v", name, list, got)
			}
		}
	}
}

// Streets go both ways, and their order is of no matter.
func TestStreetsMayBeTurned(t *testing.T) {
	for _, a := range manyNets() {
		turned := slices.Clone(a.list)
		slices.Reverse(turned)
		for i, street := range turned {
			turned[i].From, turned[i].To = street.To, street.From
		}
		for name, f := range netTables {
			if got, other := f(a.n, a.list), f(a.n, turned); !sameRows(got, other) {
				t.Fatalf("%s(%v) = %v, turned %v", name, a, got, other)
			}
		}
	}
}

// Promises 14 and 15: both tables are those of all ways, not only equal to each other.
func TestWaysByStreetsAreWaysByMiddles(t *testing.T) {
	for _, a := range manyNets() {
		want := tableOfNet(a)
		for name, f := range netTables {
			if got := f(a.n, a.list); !sameRows(got, want) {
				t.Fatalf("%s(%v) = %v, not %v", name, a, got, want)
			}
		}
	}
}

// Promise 14: ways are the same both ways, and by way of a third node no shorter.
func TestWaysByAThirdNode(t *testing.T) {
	for _, a := range manyNets() {
		table := impl.NetTable(a.n, a.list)
		for from := range a.n {
			for to := range a.n {
				if table[from][to] != table[to][from] {
					t.Fatalf("NetTable(%v) = %v", a, table)
				}
				for by := range a.n {
					first, second := table[from][by], table[by][to]
					if first >= 0 && second >= 0 && (table[from][to] < 0 || table[from][to] > first+second) {
						t.Fatalf("NetTable(%v) = %v, from %d to %d by way of %d", a, table, from, to, by)
					}
				}
			}
		}
	}
}

// Promise 15: no street is shorter than the table tells.
func TestNoStreetIsShorter(t *testing.T) {
	for _, a := range manyNets() {
		table := impl.NetByMiddles(a.n, a.list)
		for _, street := range a.list {
			if way := table[street.From][street.To]; way < 0 || way > street.Long {
				t.Fatalf("NetByMiddles(%v) = %v", a, table)
			}
		}
	}
}

// Promise 8.
func TestWaysInTreesAreWaysInNets(t *testing.T) {
	for _, tree := range append(manyTrees(), bush) {
		a := netOfTree(tree)
		for name, f := range netTables {
			if got, want := f(a.n, a.list), impl.TreeTable(tree); len(want) != a.n || !sameRows(got, want) {
				t.Fatalf("%s(%v) = %v, TreeTable = %v", name, a, got, want)
			}
		}
	}
}

// Promises 11 and 12.
func TestTreesAreCoveredAsNets(t *testing.T) {
	for _, tree := range append(manyTrees(), bush) {
		a := netOfTree(tree)
		for _, far := range someFar() {
			cover, apart := impl.TreeCover(tree, far), impl.TreeApart(tree, far)
			if got := impl.NetCover(a.n, a.list, far); cover < 1 || got != cover {
				t.Fatalf("TreeCover(%v, %d) = %d, NetCover = %d", tree, far, cover, got)
			}
			if got := impl.NetApart(a.n, a.list, far); apart != cover || got != apart {
				t.Fatalf("TreeApart(%v, %d) = %d, TreeCover = %d, NetApart = %d", tree, far, apart, cover, got)
			}
		}
	}
}

// Promises 16 and 17: both numbers are those of all sets, the cover is no less, and farther no greater.
func TestCoversAreNoFewerThanThoseApart(t *testing.T) {
	for _, a := range manyNets() {
		table := tableOfNet(a)
		last := math.MaxInt
		for _, far := range someFar() {
			cover, apart := impl.NetCover(a.n, a.list, far), impl.NetApart(a.n, a.list, far)
			if cover < apart || cover > last {
				t.Fatalf("NetCover(%v, %d) = %d, NetApart = %d, nearer %d", a, far, cover, apart, last)
			}
			if fewest, most := fewestOfSets(table, far), mostOfSets(table, far); cover != fewest || apart != most {
				t.Fatalf("NetCover(%v, %d) = %d, not %d, NetApart = %d, not %d", a, far, cover, fewest, apart, most)
			}
			last = cover
		}
	}
}

// Promise 17: of no way all nodes are apart, and each covers itself only.
func TestOfNoWayAllNodesAreApart(t *testing.T) {
	for _, a := range manyNets() {
		for name, f := range netByFar {
			if got := f(a.n, a.list, 0); got != a.n {
				t.Fatalf("%s(%v, 0) = %d", name, a, got)
			}
		}
	}
}

// Promise 18.
func TestFarEnoughCovers(t *testing.T) {
	for _, a := range manyNets() {
		for k := 1; k <= impl.MaxHelpers; k++ {
			far := impl.NetFar(a.n, a.list, k)
			if far < 0 {
				// Of no way all of the net is covered: there are more pieces than nodes of the set.
				if cover := impl.NetCover(a.n, a.list, impl.MaxPlace); cover <= k {
					t.Fatalf("NetFar(%v, %d) = %d, but NetCover = %d", a, k, far, cover)
				}
				continue
			}
			if cover := impl.NetCover(a.n, a.list, far); cover < 1 || cover > k {
				t.Fatalf("NetFar(%v, %d) = %d, with which NetCover = %d", a, k, far, cover)
			}
			for less := range far {
				if cover := impl.NetCover(a.n, a.list, less); cover <= k {
					t.Fatalf("NetFar(%v, %d) = %d, but NetCover(%d) = %d", a, k, far, less, cover)
				}
			}
		}
	}
}

// Promise 18: so far is it of all sets; with as many nodes as there are, or more, it is nothing.
func TestNetFarOfAllSets(t *testing.T) {
	for _, a := range manyNets() {
		table := tableOfNet(a)
		for k := 1; k <= impl.MaxHelpers; k++ {
			far := impl.NetFar(a.n, a.list, k)
			if want := farOfSets(table, k); far != want {
				t.Fatalf("NetFar(%v, %d) = %d, not %d", a, k, far, want)
			}
			if k >= a.n && far != 0 {
				t.Fatalf("NetFar(%v, %d) = %d", a, k, far)
			}
		}
	}
}

// Promise 19.
func TestFarthestFirstIsAtMostTwiceAsFar(t *testing.T) {
	twice := 0
	for _, a := range manyNets() {
		table := tableOfNet(a)
		for k := 1; k <= impl.MaxHelpers; k++ {
			far := impl.NetFar(a.n, a.list, k)
			way := wayToFarthest(table, impl.FarthestFirst(a.n, a.list, k))
			if far >= 0 && way > 2*far || far < 0 && way != longerThanAll {
				t.Fatalf("from FarthestFirst(%v, %d) it is %d, NetFar = %d", a, k, way, far)
			}
			if far > 0 && way == 2*far {
				twice++
			}
		}
	}
	if twice == 0 {
		t.Error("it is never twice as far")
	}
}

// Promises 19 and 82: there are so many nodes, from the node 0 on, and always the first one of the farthest is next.
func TestFarthestFirst(t *testing.T) {
	for _, a := range append(manyNets(), town) {
		table := tableOfNet(a)
		for k := 1; k <= impl.MaxHelpers; k++ {
			nodes := impl.FarthestFirst(a.n, a.list, k)
			if len(nodes) != min(k, a.n) || nodes[0] != 0 {
				t.Fatalf("FarthestFirst(%v, %d) = %v", a, k, nodes)
			}
			for i, next := range nodes[1:] {
				if slices.Contains(nodes[:i+1], next) || !isFarthestNext(table, nodes[:i+1], next) {
					t.Fatalf("FarthestFirst(%v, %d) = %v", a, k, nodes)
				}
			}
		}
	}
}

// Promise 82: one helper is the first node, and each list is the beginning of the next one.
func TestOneHelperIsTheFirstNode(t *testing.T) {
	for _, a := range append(manyNets(), town) {
		last := impl.FarthestFirst(a.n, a.list, 1)
		if !slices.Equal(last, []int{0}) {
			t.Fatalf("FarthestFirst(%v, 1) = %v", a, last)
		}
		for k := 2; k <= impl.MaxHelpers; k++ {
			next := impl.FarthestFirst(a.n, a.list, k)
			if len(next) < len(last) || !slices.Equal(next[:len(last)], last) {
				t.Fatalf("FarthestFirst(%v, %d) = %v, with one fewer %v", a, k, next, last)
			}
			last = next
		}
	}
}

// Promise 66.
func TestNetsOfTreesAreCoveredApart(t *testing.T) {
	for _, tree := range append(manyTrees(), bush) {
		a := netOfTree(tree)
		for k := 1; k <= impl.MaxHelpers; k++ {
			far := 0
			for impl.TreeCover(tree, far) > k {
				far++
			}
			if got := impl.NetFar(a.n, a.list, k); got != far {
				t.Fatalf("NetFar(%v, %d) = %d, but TreeCover is as many from %d on", a, k, got, far)
			}
		}
	}
}

// The conventions: streets are not modified, also not behind their end, results are fresh, and do not change from call to call.
func TestNetsKeepNothing(t *testing.T) {
	memory := append(slices.Clone(town.list), impl.Street{From: 3, To: 4, Long: 1}, impl.Street{From: 9, To: -9, Long: 99})
	before := slices.Clone(memory)
	list := memory[:len(town.list)]
	for range 20 {
		for name, f := range netTables {
			table := f(town.n, list)
			if !sameRows(table, townTable()) {
				t.Fatalf("%s = %v", name, table)
			}
			checkOwnMemory(t, table)
		}
		if cover, apart := impl.NetCover(town.n, list, 1), impl.NetApart(town.n, list, 1); cover != 5 || apart != 5 {
			t.Fatalf("NetCover = %d, NetApart = %d", cover, apart)
		}
		if got := impl.NetFar(town.n, list, 2); got != 4 {
			t.Fatalf("NetFar = %d", got)
		}
		nodes := impl.FarthestFirst(town.n, list, 4)
		if !slices.Equal(nodes, []int{0, 4, 3, 2}) {
			t.Fatalf("FarthestFirst = %v", nodes)
		}
		checkOwnMemory(t, [][]int{nodes, impl.FarthestFirst(town.n, list, 3)})
	}
	if !slices.Equal(memory, before) {
		t.Errorf("streets have become %v", memory)
	}
}
