package tests

import (
	"math/big"
	"slices"

	"loop.example/helpersinreach/impl"
)

// guard is helpers at spots, each busy with the same chance, beside homes from which they may be so far.
type guard struct {
	homes []int
	spots []int
	far   int
	busy  impl.Frac
}

// never and always are the chances of helpers who are never and who are always busy.
var (
	never  = impl.Frac{Up: 0, Down: 1}
	always = impl.Frac{Up: 1, Down: 1}
)

// allChances returns all chances that are valid, also those with a common factor.
func allChances() []impl.Frac {
	all := []impl.Frac{}
	for down := 1; down <= impl.MaxLoad; down++ {
		for up := range down + 1 {
			all = append(all, impl.Frac{Up: up, Down: down})
		}
	}
	return all
}

// someChances returns chances of helpers who are never, rarely, often and always busy.
func someChances() []impl.Frac {
	return []impl.Frac{never, {Up: 1, Down: 10}, {Up: 1, Down: 2}, {Up: 4, Down: 6}, {Up: 9, Down: 10}, always}
}

// backs returns how many of the helpers are near each home.
func (g guard) backs() []int {
	counts := []int{}
	for _, home := range g.homes {
		near := 0
		for i := range g.spots {
			if away(home, g.spots[i:i+1]) <= g.far {
				near++
			}
		}
		counts = append(counts, near)
	}
	return counts
}

// cases returns how many cases there are of all helpers.
func (g guard) cases() int {
	cases := 1
	for range g.spots {
		cases *= g.busy.Down
	}
	return cases
}

// reachedInCases returns how many homes have a free helper near them, in all cases together: of each set of helpers who are busy.
func (g guard) reachedInCases() int {
	all := 0
	for set := range 1 << len(g.spots) {
		cases := 1
		var places [impl.MaxHelpers]int
		free := places[:0]
		for i, spot := range g.spots {
			if set>>i&1 == 1 {
				cases *= g.busy.Up
			} else {
				cases *= g.busy.Down - g.busy.Up
				free = append(free, spot)
			}
		}
		for _, home := range g.homes {
			if away(home, free) <= g.far {
				all += cases
			}
		}
	}
	return all
}

// mean returns the mean number of homes that have a free helper near them.
func (g guard) mean() impl.Frac {
	return fracOfRat(big.NewRat(int64(g.reachedInCases()), int64(g.cases())))
}

// with returns a guard with a helper more.
func (g guard) with(spot int) guard {
	g.spots = slices.Concat(g.spots, []int{spot})
	slices.Sort(g.spots)
	return g
}

// bestOfAll returns the k places of homes with the greatest mean, of all lists of them, and the first one in order of several.
func (g guard) bestOfAll(k int) []int {
	best, most := [][]int{}, -1
	eachStand(g.homes, k, nil, func(spots []int) {
		g.spots = spots
		reached := g.reachedInCases()
		if reached > most {
			best, most = nil, reached
		}
		if reached == most {
			best = append(best, slices.Clone(spots))
		}
	})
	return slices.MinFunc(best, slices.Compare)
}

// greedyOfAll returns k places of homes, in order, to which always the first one with the greatest mean was added.
func (g guard) greedyOfAll(k int) []int {
	spots := []int{}
	for range k {
		means := []int{}
		for _, home := range g.homes {
			g.spots = append(slices.Clone(spots), home)
			means = append(means, g.reachedInCases())
		}
		spots = append(spots, g.homes[slices.Index(means, slices.Max(means))])
	}
	slices.Sort(spots)
	return spots
}

// someGuards returns guards: homes at both ends and within the line, all lists of up to MaxHelpers helpers beside them, some
// of them at one place, and helpers near to none, to some and to all of them. They are busy with a chance.
func someGuards(busy impl.Frac) []guard {
	guards := []guard{}
	for _, homes := range [][]int{{}, {0}, {50}, {3, 3}, {0, 2, 4, 10}, {5, 6, 7, 8, 9}, {0, 0, 25, 50, 50}, {0, 1, 2, 3, 4, 5, 6, 7, 8, 9}, {1, 4, 9, 16, 25, 36, 49}, {0, 5, 5, 7, 12, 18, 30, 31, 44, 50}} {
		for _, spots := range allHomes([]int{0, 3, 8, 27, impl.MaxPlace}, impl.MaxHelpers) {
			for _, far := range []int{0, 1, 4, 20, impl.MaxPlace} {
				guards = append(guards, guard{homes, spots, far, busy})
			}
		}
	}
	return guards
}

// villages returns lists of homes to which helpers may be spread: all of up to four at five places, and some of more.
func villages() [][]int {
	lists := allHomes([]int{0, 1, 2, 5, 9}, 4)[1:]
	for seed := range 30 {
		list := make([]int, 5+seed%3)
		for i := range list {
			list[i] = mixed(seed, i, 8+seed%5*10)
		}
		slices.Sort(list)
		lists = append(lists, list)
	}
	return append(lists, []int{0, 0, 0, 0, 0, 0, 0}, []int{0, 1, 3, 4, 5, 6}, []int{0, 2, 4, 5, 6, 7}, []int{0, 1, 2, 4, 6, 7, 8}, []int{4, 4, 5, 5, 50, 50, 50})
}

// spread is homes to which k helpers are spread.
type spread struct {
	guard
	k int
}

// manySpreads returns the villages with all numbers of helpers, how far they may be from homes, and some chances.
func manySpreads() []spread {
	spreads := []spread{}
	for _, homes := range villages() {
		for _, busy := range someChances() {
			for _, far := range []int{0, 1, 2, 4, impl.MaxPlace} {
				for k := range impl.MaxHelpers + 1 {
					spreads = append(spreads, spread{guard{homes, nil, far, busy}, k})
				}
			}
		}
	}
	return spreads
}
