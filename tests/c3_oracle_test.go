package tests

import (
	"math"
	"slices"

	"loop.example/helpersinreach/impl"
)

// net is a number of nodes with streets.
type net struct {
	n    int
	list []impl.Street
}

// someStreets returns all streets between two of n nodes, and at one of them, with some lengths.
func someStreets(n int, lengths []int) []impl.Street {
	streets := []impl.Street{}
	for from := range n {
		for to := range n {
			for _, long := range lengths {
				streets = append(streets, impl.Street{From: from, To: to, Long: long})
			}
		}
	}
	return streets
}

// smallNets returns all nets of up to three nodes with up to most streets, in some order, with some lengths.
func smallNets(most int, lengths []int) []net {
	nets := []net{}
	for n := 1; n <= 3; n++ {
		streets := someStreets(n, lengths)
		choices := [][]int{{}}
		for next := 0; next < len(choices); next++ {
			choice := choices[next]
			nets = append(nets, net{n, streetsAt(streets, choice)})
			for at := range streets {
				if len(choice) < most && (len(choice) == 0 || at <= choice[len(choice)-1]) {
					choices = append(choices, append(slices.Clone(choice), at))
				}
			}
		}
	}
	return nets
}

func streetsAt(streets []impl.Street, choice []int) []impl.Street {
	list := []impl.Street{}
	for _, at := range choice {
		list = append(list, streets[at])
	}
	return list
}

// netsOfPairs returns the nets of n nodes with at most one street for each pair of nodes, for all sets of pairs, with mixed lengths up to most.
func netsOfPairs(n int, most int) []net {
	pairs := []impl.Street{}
	for a := range n {
		for b := range a {
			pairs = append(pairs, impl.Street{From: a, To: b})
		}
	}
	nets := []net{}
	for set := range 1 << len(pairs) {
		list := []impl.Street{}
		for i, pair := range pairs {
			if set>>i&1 == 1 {
				pair.Long = 1 + (set*5+i*i*3+set*i)%most
				list = append(list, pair)
			}
		}
		nets = append(nets, net{n, list})
	}
	return nets
}

// mixedNets returns nets of all numbers of nodes, with all numbers of streets up to MaxStreets, also beside each other, and at one node.
func mixedNets() []net {
	nets := []net{}
	for seed := range 1300 {
		list := make([]impl.Street, seed%(impl.MaxStreets+1))
		n := 1 + seed/(impl.MaxStreets+1)%impl.MaxNodes
		for i := range list {
			list[i].From = (seed*7 + i*i*11 + seed*i*3) % 31 % n
			list[i].To = (seed*13 + i*5 + seed*seed*i) % 37 % n
			list[i].Long = 1 + (seed*3+i*i*7+seed*i*5)%impl.MaxLong
		}
		nets = append(nets, net{n, list})
	}
	return nets
}

// ringOf returns n nodes in a ring, with streets as long as that.
func ringOf(n int, long int) net {
	ring := net{n: n}
	for i := range n {
		ring.list = append(ring.list, impl.Street{From: i, To: (i + 1) % n, Long: long})
	}
	return ring
}

// netOfTree returns the roads of a tree as streets.
func netOfTree(t []impl.Road) net {
	list := []impl.Street{}
	for i, road := range t[1:] {
		list = append(list, impl.Street{From: i + 1, To: road.To, Long: road.Long})
	}
	return net{len(t), list}
}

// manyNets returns the nets on which the promises are tried.
func manyNets() []net {
	nets := smallNets(3, []int{1, 2, impl.MaxLong})
	nets = append(nets, netsOfPairs(4, 1)...)
	nets = append(nets, netsOfPairs(4, impl.MaxLong)...)
	nets = append(nets, netsOfPairs(5, 2)...)
	nets = append(nets, mixedNets()...)
	for n := 1; n <= impl.MaxNodes; n++ {
		nets = append(nets, net{n, nil}, ringOf(n, 1), ringOf(n, impl.MaxLong))
	}
	for _, shape := range allTrees(impl.MaxNodes, []int{impl.MaxLong}) {
		nets = append(nets, netOfTree(shape))
	}
	return nets
}

// wayInNet returns the length of the shortest one of all ways that go to no node twice, nor to those passed already; -1 for none.
func wayInNet(list []impl.Street, from int, to int, passed uint) int {
	if from == to {
		return 0
	}
	shortest := -1
	passed |= 1 << from
	for _, street := range list {
		for _, ends := range [][]int{{street.From, street.To}, {street.To, street.From}} {
			if ends[0] != from || passed>>ends[1]&1 == 1 {
				continue
			}
			rest := wayInNet(list, ends[1], to, passed)
			if rest >= 0 && (shortest < 0 || street.Long+rest < shortest) {
				shortest = street.Long + rest
			}
		}
	}
	return shortest
}

// tableOfNet returns how far the nodes of a net are from each other; -1 for no way.
func tableOfNet(a net) [][]int {
	table := make([][]int, a.n)
	for from := range a.n {
		for to := range a.n {
			table[from] = append(table[from], wayInNet(a.list, from, to, 0))
		}
	}
	return table
}

// longerThanAll is more than all ways; it stands for no way where ways are compared.
const longerThanAll = math.MaxInt

// wayFrom returns how far a node is from the nearest one of others.
func wayFrom(row []int, others []int) int {
	nearest := longerThanAll
	for _, other := range others {
		if row[other] >= 0 {
			nearest = min(nearest, row[other])
		}
	}
	return nearest
}

// wayToFarthest returns how far the farthest node of a table is from the nearest one of others.
func wayToFarthest(table [][]int, others []int) int {
	farthest := 0
	for _, row := range table {
		farthest = max(farthest, wayFrom(row, others))
	}
	return farthest
}

// farOfSets returns how far the farthest node of a table is at least from the nearest one of k nodes; -1 if always some node has no way.
func farOfSets(table [][]int, k int) int {
	least := longerThanAll
	eachStand(placesUpTo(len(table)-1), k, nil, func(others []int) {
		least = min(least, wayToFarthest(table, others))
	})
	if least == longerThanAll {
		return -1
	}
	return least
}

// isFarthestNext reports whether no node is farther from those chosen than the next one, and none ahead of it as far.
func isFarthestNext(table [][]int, chosen []int, next int) bool {
	way := wayFrom(table[next], chosen)
	for i, row := range table {
		other := wayFrom(row, chosen)
		if other > way || other == way && i < next {
			return false
		}
	}
	return true
}
