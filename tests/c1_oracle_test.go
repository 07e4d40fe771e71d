package tests

import (
	"math"
	"slices"

	"loop.example/helpersinreach/impl"
)

// allHomes returns all lists of at most most homes at some places, which are ascending.
func allHomes(places []int, most int) [][]int {
	lists := [][]int{{}}
	for next := 0; next < len(lists); next++ {
		list := lists[next]
		if len(list) == most {
			continue
		}
		for _, place := range places {
			if len(list) == 0 || place >= list[len(list)-1] {
				lists = append(lists, append(slices.Clone(list), place))
			}
		}
	}
	return lists
}

// manyHomes returns the lists on which the promises are tried: all of up to MaxHomes homes at six places, with both ends of the line,
// and some that are spread over the whole line.
func manyHomes() [][]int {
	lists := allHomes([]int{0, 1, 4, 5, 17, impl.MaxPlace}, impl.MaxHomes)
	for seed := range 300 {
		list := make([]int, seed%(impl.MaxHomes+1))
		for i := range list {
			list[i] = (seed*seed*7 + i*i*13 + seed*i*29 + i*5) % (impl.MaxPlace + 1)
		}
		slices.Sort(list)
		lists = append(lists, list)
	}
	return lists
}

// fewHomes returns all lists of up to five homes at the first eight places.
func fewHomes() [][]int {
	return allHomes([]int{0, 1, 2, 3, 4, 5, 6, 7}, 5)
}

// otherEnd returns homes as they are seen from the other end of the line.
func otherEnd(list []int) []int {
	seen := make([]int, len(list))
	for i, home := range list {
		seen[len(list)-1-i] = impl.MaxPlace - home
	}
	return seen
}

// different returns how many different numbers there are.
func different(list []int) int {
	return len(slices.Compact(slices.Sorted(slices.Values(list))))
}

// away returns how far a home is from the nearest one of the helpers.
func away(home int, helpers []int) int {
	nearest := math.MaxInt
	for _, helper := range helpers {
		nearest = min(nearest, max(home-helper, helper-home))
	}
	return nearest
}

// eachStand calls look with all choices of k helpers at some places, several of them at one place too.
func eachStand(places []int, k int, helpers []int, look func([]int)) {
	if k == 0 {
		look(helpers)
		return
	}
	for i, place := range places {
		eachStand(places[i:], k-1, append(helpers, place), look)
	}
}

// placesUpTo returns the places from 0 up to last.
func placesUpTo(last int) []int {
	places := []int{}
	for place := range last + 1 {
		places = append(places, place)
	}
	return places
}

// sumAnywhere returns the least sum of how far the nearest one of k helpers at any of the places is.
func sumAnywhere(list []int, k int, places []int) int {
	least := math.MaxInt
	eachStand(places, k, nil, func(helpers []int) {
		sum := 0
		for _, home := range list {
			sum += away(home, helpers)
		}
		least = min(least, sum)
	})
	return least
}

// farAnywhere returns how far the farthest home is at least from the nearest one of k helpers at any of the places.
func farAnywhere(list []int, k int, places []int) int {
	least := math.MaxInt
	eachStand(places, k, nil, func(helpers []int) {
		farthest := 0
		for _, home := range list {
			farthest = max(farthest, away(home, helpers))
		}
		least = min(least, farthest)
	})
	return least
}

// fewestAnywhere returns the least number of helpers, at any of the places, such that each home has one at most far from it.
func fewestAnywhere(list []int, far int, places []int) int {
	if len(list) == 0 {
		return 0
	}
	k := 1
	for farAnywhere(list, k, places) > far {
		k++
	}
	return k
}

// mostOfAll returns the greatest number of homes, of all sets of them, of which each two are more than 2*far from each other.
func mostOfAll(list []int, far int) int {
	most := 0
	for set := range 1 << len(list) {
		chosen := []int{}
		for i, home := range list {
			if set>>i&1 == 1 {
				chosen = append(chosen, home)
			}
		}
		if allApart(chosen, far) {
			most = max(most, len(chosen))
		}
	}
	return most
}

func allApart(chosen []int, far int) bool {
	for i := range chosen {
		for j := range i {
			if away(chosen[i], chosen[j:j+1]) <= 2*far {
				return false
			}
		}
	}
	return true
}
