package tests

import (
	"math"
	"math/bits"
	"slices"

	"loop.example/helpersinreach/impl"
)

// allTrees returns all trees of at most most nodes with roads of some lengths.
func allTrees(most int, lengths []int) [][]impl.Road {
	trees := [][]impl.Road{{{To: -1}}}
	for next := 0; next < len(trees); next++ {
		tree := trees[next]
		if len(tree) == most {
			continue
		}
		for to := range tree {
			for _, long := range lengths {
				trees = append(trees, append(slices.Clone(tree), impl.Road{To: to, Long: long}))
			}
		}
	}
	return trees
}

// manyTrees returns the trees on which the promises are tried: all small ones with short and long roads,
// and all shapes of trees up to MaxNodes, with roads that are all equal and with roads of mixed lengths.
func manyTrees() [][]impl.Road {
	trees := allTrees(4, []int{1, 2, 5, impl.MaxLong})
	trees = append(trees, allTrees(5, []int{1, 3})...)
	trees = append(trees, allTrees(impl.MaxNodes, []int{impl.MaxLong})...)
	for seed, shape := range allTrees(impl.MaxNodes, []int{1}) {
		for i := range shape[1:] {
			shape[i+1].Long = 1 + (seed*7+i*i*5+seed*i*3)%impl.MaxLong
		}
		trees = append(trees, shape)
	}
	return trees
}

// manyFolk returns people for n nodes: none, one at each node, as many as may be, all of them at one node, and mixed ones.
func manyFolk(n int) [][]int {
	all := [][]int{make([]int, n), slices.Repeat([]int{1}, n), slices.Repeat([]int{impl.MaxFolk}, n)}
	for at := range n {
		alone := make([]int, n)
		alone[at] = 3
		all = append(all, alone)
		mixed := make([]int, n)
		for i := range mixed {
			mixed[i] = (at*11 + i*i*7 + at*i*5) % (impl.MaxFolk + 1)
		}
		all = append(all, mixed)
	}
	return all
}

// someFar returns how far helpers are in what is tried of all sets.
func someFar() []int {
	return []int{0, 1, 2, 3, 4, 5, 6, 8, 9, 10, 13, 18, 26, 27, 36, 45, impl.MaxPlace}
}

// wayInTree returns how far two nodes of a tree are from each other: the later one goes up until both are one.
func wayInTree(t []impl.Road, a int, b int) int {
	way := 0
	for a != b {
		if a < b {
			a, b = b, a
		}
		way += t[a].Long
		a = t[a].To
	}
	return way
}

// isBehind reports whether the way from a node to the node 0 is by way of another one, or begins there.
func isBehind(t []impl.Road, n int, by int) bool {
	for n > by {
		n = t[n].To
	}
	return n == by
}

// isMiddle reports whether without a node no part of the tree has more than half of all people.
func isMiddle(t []impl.Road, folk []int, middle int) bool {
	all := 0
	for _, people := range folk {
		all += people
	}
	for a := range t {
		part := 0
		for b := range t {
			// Both are in one part if the way between them is not by way of the middle.
			if wayInTree(t, a, b) < wayInTree(t, a, middle)+wayInTree(t, middle, b) {
				part += folk[b]
			}
		}
		if a != middle && 2*part > all {
			return false
		}
	}
	return true
}

// nearOf returns for each node the set of nodes that are at most far from it, where a way of -1 is none.
func nearOf(table [][]int, far int) []uint {
	near := make([]uint, len(table))
	for i, row := range table {
		for j, way := range row {
			if way >= 0 && way <= far {
				near[i] |= 1 << j
			}
		}
	}
	return near
}

// fewestOfSets returns the least number of nodes of a table, of all sets, such that each node has one at most far from it.
func fewestOfSets(table [][]int, far int) int {
	near := nearOf(table, far)
	least := math.MaxInt
	for set := range uint(1) << len(table) {
		has := 0
		for i := range table {
			if near[i]&set != 0 {
				has++
			}
		}
		if has == len(table) {
			least = min(least, bits.OnesCount(set))
		}
	}
	return least
}

// mostOfSets returns the greatest number of nodes of a table, of all sets, of which no two have a node at most far from both.
func mostOfSets(table [][]int, far int) int {
	near := nearOf(table, far)
	most := 0
	for set := range uint(1) << len(table) {
		apart := true
		for i := range table {
			for j := range i {
				if set>>i&1 == 1 && set>>j&1 == 1 && near[i]&near[j] != 0 {
					apart = false
				}
			}
		}
		if apart {
			most = max(most, bits.OnesCount(set))
		}
	}
	return most
}
