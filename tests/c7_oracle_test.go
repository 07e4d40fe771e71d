package tests

import (
	"slices"

	"loop.example/helpersinreach/impl"
)

// patrol is a row of n spots, and a round of it.
type patrol struct {
	n     int
	round []int
}

// listsOfSpots returns all lists of a length of numbers from first up to last.
func listsOfSpots(first int, last int, long int) [][]int {
	lists := [][]int{{}}
	for range long {
		longer := [][]int{}
		for _, list := range lists {
			for spot := first; spot <= last; spot++ {
				longer = append(longer, append(slices.Clone(list), spot))
			}
		}
		lists = longer
	}
	return lists
}

// goesRound reports whether of a list, written twice, all are spots, and no two one behind the other are more than a step apart.
func goesRound(p patrol) bool {
	if p.n < 1 || p.n > impl.MaxSpots || len(p.round) < 1 || len(p.round) > impl.MaxRound {
		return false
	}
	spots := placesUpTo(p.n - 1)
	twice := slices.Concat(p.round, p.round)
	for i, spot := range twice {
		if !slices.Contains(spots, spot) || i > 0 && apart(twice[i-1], spot) > 1 {
			return false
		}
	}
	return true
}

// smallPatrols returns all rounds of rows of up to four spots, of up to six times.
func smallPatrols() []patrol {
	all := []patrol{}
	for n := 1; n <= 4; n++ {
		for long := 1; long <= 6; long++ {
			for _, round := range listsOfSpots(0, n-1, long) {
				if p := (patrol{n, round}); goesRound(p) {
					all = append(all, p)
				}
			}
		}
	}
	return all
}

// strollOf returns a round of a row that follows no plain rule, and is not at all spots most often.
func strollOf(n int, long int, seed int) patrol {
	start := mixed(seed, 0, n)
	round := []int{start}
	for i := 1; i < long; i++ {
		spot := min(max(round[i-1]+mixed(seed, i, 3)-1, 0), n-1)
		// So many times are left to come back to a spot beside the start.
		left := long - i
		round = append(round, min(max(spot, start-left), start+left))
	}
	return patrol{n, round}
}

// detourOf returns a round that begins somewhere on the way to and fro, and waits at a spot or goes one step back here and there,
// as often as there is time for it. It is at all spots of the row.
func detourOf(n int, long int, seed int) patrol {
	round := toAndFro(n)
	for i := 0; len(round) < long; i++ {
		at := mixed(seed, 2*i, len(round))
		spot := round[at]
		if beside := spot + 1 - 2*(i%2); len(round)+2 <= long && beside >= 0 && beside < n && mixed(seed, 2*i+1, 2) == 0 {
			round = slices.Insert(round, at, spot, beside)
		} else {
			round = slices.Insert(round, at, spot)
		}
	}
	return patrol{n, begunAt(round, mixed(seed, 99, len(round)))}
}

// toAndFro returns the round that turns round at both ends of a row, step by step.
func toAndFro(n int) []int {
	round, spot, step := []int{0}, 0, 1
	for range 2*n - 3 {
		if spot == n-1 {
			step = -1
		}
		spot += step
		round = append(round, spot)
	}
	return round
}

// mixedPatrols returns rounds of all rows and of all lengths.
func mixedPatrols() []patrol {
	all := []patrol{}
	for n := 1; n <= impl.MaxSpots; n++ {
		for long := 1; long <= impl.MaxRound; long++ {
			for seed := range 8 {
				all = append(all, strollOf(n, long, seed*200+n*20+long))
				if long >= 2*n-2 {
					all = append(all, detourOf(n, long, seed*200+n*20+long))
				}
			}
		}
	}
	return all
}

// manyPatrols returns the rounds on which the promises are tried.
func manyPatrols() []patrol {
	return append(smallPatrols(), mixedPatrols()...)
}

// otherWay returns a round the other way round.
func otherWay(round []int) []int {
	back := slices.Clone(round)
	slices.Reverse(back)
	return back
}

// begunAt returns a round that begins so many times later.
func begunAt(round []int, times int) []int {
	return slices.Concat(round[times:], round[:times])
}

// waitsByClock returns how long each spot waits at most from one visit to the next one, or -1, when two helpers go a round three times
// from the time on when the second one, who is late times behind, begins it too.
func waitsByClock(p patrol, late int) []int {
	waits, last := slices.Repeat([]int{-1}, p.n), slices.Repeat([]int{-1}, p.n)
	for now := late; now < late+3*len(p.round); now++ {
		for _, helper := range []int{now, now - late} {
			spot := p.round[helper%len(p.round)]
			if last[spot] >= 0 {
				waits[spot] = max(waits[spot], now-last[spot])
			}
			last[spot] = now
		}
	}
	return waits
}

// worstOfWaits returns the greatest one of numbers, or -1 if one of them is -1.
func worstOfWaits(waits []int) int {
	sorted := slices.Sorted(slices.Values(waits))
	if sorted[0] == -1 {
		return -1
	}
	return sorted[len(sorted)-1]
}
