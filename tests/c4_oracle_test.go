package tests

import (
	"math"
	"slices"

	"loop.example/helpersinreach/impl"
)

// service is helpers with room, and the lists of those that may take each call.
type service struct {
	room []int
	wish [][]int
}

// mixed returns a number below a limit that follows no plain rule, always the same one of a seed and an index.
func mixed(seed int, i int, below int) int {
	x := uint64(seed*1009+i+1) * 0x9e3779b97f4a7c15
	x = (x ^ x>>29) * 0xbf58476d1ce4e5b9
	return int((x ^ x>>32) % uint64(below))
}

// listOfSet returns the numbers below n that are in a set, in which bit i is the number i.
func listOfSet(set int, n int) []int {
	list := []int{}
	for i := range n {
		if set>>i&1 == 1 {
			list = append(list, i)
		}
	}
	return list
}

// smallServices returns all services of at most two helpers and at most three calls, with room for at most two calls each.
func smallServices() []service {
	all := []service{}
	for _, room := range [][]int{{}, {0}, {1}, {2}, {0, 0}, {0, 1}, {1, 0}, {1, 1}, {0, 2}, {2, 0}, {1, 2}, {2, 1}, {2, 2}} {
		sets := 1 << len(room)
		for calls := range 4 {
			choices := 1
			for range calls {
				choices *= sets
			}
			for choice := range choices {
				wish := [][]int{}
				for range calls {
					wish = append(wish, listOfSet(choice%sets, len(room)))
					choice /= sets
				}
				all = append(all, service{room, wish})
			}
		}
	}
	return all
}

// mixedServices returns services of all numbers of helpers and calls, most of them with little room.
func mixedServices() []service {
	all := []service{}
	for seed := range 3000 {
		a := service{room: make([]int, mixed(seed, 0, impl.MaxHelpers+1)), wish: make([][]int, mixed(seed, 1, impl.MaxTried+1))}
		for i := range a.room {
			a.room[i] = mixed(seed, 2+i, 2+seed%(impl.MaxTried))
		}
		for i := range a.wish {
			a.wish[i] = listOfSet(mixed(seed, 10+i, 1<<len(a.room)), len(a.room))
		}
		all = append(all, a)
	}
	return all
}

// manyServices returns the services on which the promises are tried.
func manyServices() []service {
	return append(smallServices(), mixedServices()...)
}

// takenOfAll returns how many calls are taken at most, of all ways to give each call to one helper or to none.
func takenOfAll(room []int, wish [][]int) int {
	if len(wish) == 0 {
		return 0
	}
	most := takenOfAll(room, wish[1:])
	for _, taker := range wish[0] {
		if room[taker] > 0 {
			less := slices.Clone(room)
			less[taker]--
			most = max(most, 1+takenOfAll(less, wish[1:]))
		}
	}
	return most
}

// blockOfAll returns the least sum of the room of some helpers and of the calls that others may take, of all sets of them.
func blockOfAll(room []int, wish [][]int) int {
	least := math.MaxInt
	for set := range 1 << len(room) {
		some := listOfSet(set, len(room))
		sum := 0
		for _, taker := range some {
			sum += room[taker]
		}
		for _, list := range wish {
			if slices.ContainsFunc(list, func(taker int) bool { return !slices.Contains(some, taker) }) {
				sum++
			}
		}
		least = min(least, sum)
	}
	return least
}

// wished returns how many calls some helper may take.
func wished(wish [][]int) int {
	calls := 0
	for _, list := range wish {
		if len(list) > 0 {
			calls++
		}
	}
	return calls
}

// manyCosts returns the costs on which the promises are tried, of all numbers of calls from none to one less than MaxNodes:
// all small ones of two calls, equal ones, such that favour one order, and mixed ones.
func manyCosts() [][][]int {
	all := [][][]int{nil}
	for choice := range 256 {
		all = append(all, [][]int{{choice & 3, choice >> 2 & 3}, {choice >> 4 & 3, choice >> 6}})
	}
	for n := range impl.MaxNodes {
		for _, number := range []int{0, 1, impl.MaxPlace} {
			all = append(all, slices.Repeat([][]int{slices.Repeat([]int{number}, n)}, n))
		}
		for seed := range 100 {
			below := []int{2, 4, 10, impl.MaxPlace + 1}[seed%4]
			all = append(all, mixedCosts(n, seed*10+n, below))
		}
	}
	return all
}

// mixedCosts returns costs of n calls, of numbers below a limit.
func mixedCosts(n int, seed int, below int) [][]int {
	cost := make([][]int, n)
	for i := range cost {
		for j := range n {
			cost[i] = append(cost[i], mixed(seed, i*n+j, below))
		}
	}
	return cost
}

// turned returns rows with columns as rows.
func turned(cost [][]int) [][]int {
	columns := make([][]int, len(cost))
	for i, row := range cost {
		columns[i] = make([]int, len(row))
		for j := range row {
			columns[i][j] = cost[j][i]
		}
	}
	return columns
}

// costOfOrders returns the least sum of costs of all orders of the helpers, each made by an exchange of two of them.
func costOfOrders(cost [][]int) int {
	order := []int{}
	for i := range cost {
		order = append(order, i)
	}
	least := math.MaxInt
	var from func(first int)
	from = func(first int) {
		if first == len(order) {
			sum := 0
			for i, taker := range order {
				sum += cost[i][taker]
			}
			least = min(least, sum)
		}
		for other := first; other < len(order); other++ {
			order[first], order[other] = order[other], order[first]
			from(first + 1)
			order[first], order[other] = order[other], order[first]
		}
	}
	from(0)
	return least
}
