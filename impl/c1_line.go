package impl

import (
	"math/bits"
	"slices"
)

// MaxHomes is the largest number of homes.
const MaxHomes = 10

// MaxPlace is the greatest place.
const MaxPlace = 50

// MaxHelpers is the largest number of helpers.
const MaxHelpers = 4

// MaxTried is the largest number of homes of which all choices are tried.
const MaxTried = 7

// tooFar is more than any sum of how far homes are.
const tooFar = MaxHomes*MaxPlace + 1

// group is a part of the homes in order: those from first on, up to one ahead of end.
type group struct {
	first int
	end   int
}

// ValidHomes reports whether numbers are homes: few enough, on the line, and in order.
func ValidHomes(list []int) bool {
	return len(list) <= MaxHomes && inOrderUpTo(list, MaxPlace)
}

// LeastSum returns the least sum of how far the nearest helper is, found by groups; -1 for invalid arguments.
func LeastSum(list []int, k int) int {
	if !ValidHomes(list) || !validHelpers(k) {
		return -1
	}
	costs := groupCosts(list)
	sums := slices.Repeat([]int{tooFar}, len(list)+1)
	sums[0] = 0
	for range k {
		sums = withOneGroup(sums, costs)
	}
	return sums[len(list)]
}

// SumTried returns the least sum of all choices of homes as places of helpers; -1 for invalid arguments.
func SumTried(list []int, k int) int {
	if !ValidHomes(list) || len(list) > MaxTried || !validHelpers(k) {
		return -1
	}
	chosen := min(k, len(list))
	least := tooFar
	for set := range uint(1) << len(list) {
		if bits.OnesCount(set) == chosen {
			least = min(least, sumToSet(list, set))
		}
	}
	return least
}

// FewestNear returns the fewest helpers that are near all homes; -1 for invalid arguments.
func FewestNear(list []int, far int) int {
	if !ValidHomes(list) || !validFar(far) {
		return -1
	}
	helpers := 0
	reached := -1
	for _, home := range list {
		if home > reached {
			helpers++
			// The helper stands far behind this home, and reaches as far again.
			reached = home + 2*far
		}
	}
	return helpers
}

// MostApart returns the most homes that are apart; -1 for invalid arguments.
func MostApart(list []int, far int) int {
	if !ValidHomes(list) || !validFar(far) {
		return -1
	}
	most := 0
	apart := make([]int, len(list))
	for i, home := range list {
		// Homes are in order: who is apart from the last one chosen is apart from all.
		apart[i] = 1
		for j, other := range list[:i] {
			if home-other > 2*far {
				apart[i] = max(apart[i], apart[j]+1)
			}
		}
		most = max(most, apart[i])
	}
	return most
}

// LeastFar returns how far helpers are at least when they are near all homes; -1 for invalid arguments.
func LeastFar(list []int, k int) int {
	if !ValidHomes(list) || !validHelpers(k) {
		return -1
	}
	// This ends: from half of MaxPlace on, one helper is near all homes.
	far := 0
	for FewestNear(list, far) > k {
		far++
	}
	return far
}

// validHelpers reports whether there may be k helpers.
func validHelpers(k int) bool {
	return k >= 1 && k <= MaxHelpers
}

// validFar reports whether a helper may be as far.
func validFar(far int) bool {
	return far >= 0 && far <= MaxPlace
}

// inOrderUpTo reports whether each place of a list is in 0..last, and none less than the one ahead of it.
func inOrderUpTo(list []int, last int) bool {
	ahead := 0
	for _, place := range list {
		if place < ahead || place > last {
			return false
		}
		ahead = place
	}
	return true
}

// distance returns how far two places are from each other.
func distance(a int, b int) int {
	return max(a-b, b-a)
}

// groupCosts returns what each group costs that is not empty.
func groupCosts(list []int) map[group]int {
	costs := map[group]int{}
	for first := range list {
		for end := first + 1; end <= len(list); end++ {
			costs[group{first, end}] = sumToMiddle(list[first:end])
		}
	}
	return costs
}

// sumToMiddle returns how far homes are, in sum, from the middle one.
func sumToMiddle(homes []int) int {
	middle := homes[len(homes)/2]
	sum := 0
	for _, home := range homes {
		sum += distance(home, middle)
	}
	return sum
}

// withOneGroup returns the least sums of the first homes, so many as the index tells, with one group more than sums.
// Each of the new sums is a least one over all groups, so that no order of the map shows.
func withOneGroup(sums []int, costs map[group]int) []int {
	// A helper more need not have a group, so the sums without one stay.
	more := slices.Clone(sums)
	for g, cost := range costs {
		more[g.end] = min(more[g.end], sums[g.first]+cost)
	}
	return more
}

// sumToSet returns how far homes are, in sum, from the nearest home of a set, in which bit i is home i.
func sumToSet(list []int, set uint) int {
	sum := 0
	for _, home := range list {
		nearest := tooFar
		for i, place := range list {
			if set>>i&1 == 1 {
				nearest = min(nearest, distance(home, place))
			}
		}
		sum += nearest
	}
	return sum
}
