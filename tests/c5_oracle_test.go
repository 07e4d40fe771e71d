package tests

import (
	"math"
	"slices"

	"loop.example/helpersinreach/impl"
)

// journey is where two helpers stand at first, and the calls that come.
type journey struct {
	a     int
	b     int
	calls []int
}

// smallPlaces is how many places the small journeys have.
const smallPlaces = 5

// smallJourneys returns all journeys at the first places, with up to four calls.
func smallJourneys() []journey {
	all := []journey{}
	eachStand(placesUpTo(smallPlaces-1), 2, nil, func(both []int) {
		lists := [][]int{nil}
		for next := 0; next < len(lists); next++ {
			list := lists[next]
			all = append(all, journey{both[0], both[1], list})
			for place := range smallPlaces {
				if len(list) < 4 {
					lists = append(lists, append(slices.Clone(list), place))
				}
			}
		}
	})
	return all
}

// mixedJourneys returns journeys with all numbers of calls, on the whole line, with many and with few places,
// where helpers stand at one place, beside each other, and at both ends.
func mixedJourneys() []journey {
	all := []journey{}
	for seed := range 3000 {
		below := []int{4, 10, 30, impl.MaxPlace + 1}[seed%4]
		both := [][]int{{mixed(seed, 0, below), mixed(seed, 1, below)}, {mixed(seed, 2, below), mixed(seed, 2, below)}, {0, impl.MaxPlace}}[seed%3]
		calls := make([]int, mixed(seed, 3, impl.MaxCalls+1))
		for i := range calls {
			calls[i] = mixed(seed, 4+i, below)
		}
		all = append(all, journey{min(both[0], both[1]), max(both[0], both[1]), calls})
	}
	return all
}

// manyJourneys returns the journeys on which the promises are tried.
func manyJourneys() []journey {
	return append(smallJourneys(), mixedJourneys()...)
}

// mirrored returns a journey as it is seen from the other end of the line; calls come in the same order.
func mirrored(j journey) journey {
	seen := journey{impl.MaxPlace - j.b, impl.MaxPlace - j.a, slices.Clone(j.calls)}
	for i, place := range j.calls {
		seen.calls[i] = impl.MaxPlace - place
	}
	return seen
}

// apart returns how far two places are from each other.
func apart(a int, b int) int {
	if a < b {
		return b - a
	}
	return a - b
}

// eachTaking calls look for each way to give each call to one of two helpers, with how far they go together and where both stand then.
func eachTaking(j journey, look func(way int, a int, b int)) {
	for takers := range 1 << len(j.calls) {
		places, way := [2]int{j.a, j.b}, 0
		for i, place := range j.calls {
			taker := takers >> i & 1
			way += apart(places[taker], place)
			places[taker] = place
		}
		look(way, places[0], places[1])
	}
}

// wayOfAll returns the least way to all calls, of all ways to give each one to one of two helpers.
func wayOfAll(j journey) int {
	least := math.MaxInt
	eachTaking(j, func(way int, _ int, _ int) { least = min(least, way) })
	return least
}

// workOfAll returns the least way to all calls and then to two places, of all ways to give each one to one of two helpers.
func workOfAll(j journey, x int, y int) int {
	least := math.MaxInt
	eachTaking(j, func(way int, a int, b int) {
		least = min(least, way+apart(a, x)+apart(b, y), way+apart(a, y)+apart(b, x))
	})
	return least
}

// worksByPlaces returns the least ways to all calls and then to each two of the first places, where both helpers may go
// to any of these places ahead of each call, also where no call is.
func worksByPlaces(j journey, places int) [][]int {
	works := make([][]int, places)
	for x := range works {
		for y := range places {
			works[x] = append(works[x], apart(j.a, x)+apart(j.b, y))
		}
	}
	for _, call := range j.calls {
		works = worksBehind(works, call)
	}
	return works
}

// worksBehind returns the least ways behind one call more: by way of all stands of which one is at the call.
func worksBehind(works [][]int, call int) [][]int {
	next := make([][]int, len(works))
	for x := range works {
		for y := range works {
			least := math.MaxInt
			for other := range works {
				least = min(least, works[call][other]+apart(call, x)+apart(other, y), works[other][call]+apart(other, x)+apart(call, y))
			}
			next[x] = append(next[x], least)
		}
	}
	return next
}

// wayStepwise returns how far both helpers go, and where they stand then, place by place: to each call the nearer one goes,
// of both as near the lower one, and where towards is true, the other one too as long as the call is between both.
func wayStepwise(j journey, towards bool) (int, int, int) {
	a, b, way := j.a, j.b, 0
	for _, call := range j.calls {
		lowGoes := apart(a, call) <= apart(b, call)
		together := towards && a < call && call < b
		for a != call && b != call {
			if lowGoes || together {
				a, way = stepTo(a, call), way+1
			}
			if !lowGoes || together {
				b, way = stepTo(b, call), way+1
			}
		}
		a, b = min(a, b), max(a, b)
	}
	return way, a, b
}

// stepTo returns the place one nearer to another one.
func stepTo(from int, to int) int {
	if from < to {
		return from + 1
	}
	return from - 1
}
