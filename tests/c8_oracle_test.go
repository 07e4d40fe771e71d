package tests

import (
	"slices"

	"loop.example/helpersinreach/impl"
)

// smallRows returns all rows of up to four streets with some numbers of people, with none and with as many as may be among them.
func smallRows() [][]int {
	rows := [][]int{}
	for long := 1; long <= 4; long++ {
		for _, choice := range listsOfSpots(0, 4, long) {
			for i, at := range choice {
				choice[i] = []int{0, 1, 2, 5, impl.MaxFolk}[at]
			}
			rows = append(rows, choice)
		}
	}
	return rows
}

// mixedRows returns rows of all lengths: of few and of many people, and with many streets without any, also at both ends.
func mixedRows() [][]int {
	rows := [][]int{}
	for long := 1; long <= impl.MaxHomes; long++ {
		rows = append(rows, make([]int, long), slices.Repeat([]int{impl.MaxFolk}, long))
		for seed := range 30 {
			few, many, sparse := make([]int, long), make([]int, long), make([]int, long)
			for i := range long {
				few[i] = mixed(seed+100*long, i, 4)
				many[i] = mixed(seed+100*long, 20+i, impl.MaxFolk+1)
				sparse[i] = mixed(seed+100*long, 40+i, 3) / 2 * mixed(seed+100*long, 60+i, impl.MaxFolk+1)
			}
			rows = append(rows, few, many, sparse)
		}
	}
	return rows
}

// manyRows returns the rows of streets on which the promises are tried.
func manyRows() [][]int {
	return append(smallRows(), mixedRows()...)
}

// someMost returns numbers of people that districts may have at most: all up to one more than all people, and the greatest ones.
func someMost(list []int) []int {
	return append(placesUpTo(peopleOf(list)+1), 999, 1000)
}

// peopleOf returns how many people there are in all streets.
func peopleOf(list []int) int {
	people := 0
	for _, more := range list {
		people += more
	}
	return people
}

// cutting is a way to cut streets: where the districts begin that are behind the first one, how many there are, and how many people
// the greatest one and the least one have.
type cutting struct {
	cuts      []int
	districts int
	greatest  int
	least     int
}

// cuttingsOf returns all ways to cut streets.
func cuttingsOf(list []int) []cutting {
	all := []cutting{}
	for set := range 1 << (len(list) - 1) {
		cuts := []int{}
		for _, gap := range listOfSet(set, len(list)-1) {
			cuts = append(cuts, gap+1)
		}
		people := slices.Sorted(slices.Values(peopleBetween(list, cuts)))
		all = append(all, cutting{cuts, len(people), people[len(people)-1], people[0]})
	}
	return all
}

// peopleBetween returns how many people each district has.
func peopleBetween(list []int, cuts []int) []int {
	people := []int{}
	begin := 0
	for _, end := range append(slices.Clone(cuts), len(list)) {
		people = append(people, peopleOf(list[begin:end]))
		begin = end
	}
	return people
}

// fewestOfCuttings returns the least number of districts of at most most people, or -1.
func fewestOfCuttings(all []cutting, most int) int {
	fewest := -1
	for _, c := range all {
		if c.greatest <= most && (fewest == -1 || c.districts < fewest) {
			fewest = c.districts
		}
	}
	return fewest
}

// latestOfCuttings returns the cuts into districts of at most most people with the latest first one, of several with the latest second one,
// and so on, where no cut is later than each; false if there are none.
func latestOfCuttings(all []cutting, most int) ([]int, bool) {
	later := func(some []int, others []int) bool {
		return slices.Compare(append(slices.Clone(some), impl.MaxHomes), append(slices.Clone(others), impl.MaxHomes)) > 0
	}
	var latest []int
	found := false
	for _, c := range all {
		if c.greatest <= most && (!found || later(c.cuts, latest)) {
			latest, found = c.cuts, true
		}
	}
	return latest, found
}

// leastGreatestOfCuttings returns how many people the greatest one of at most k districts has at least.
func leastGreatestOfCuttings(all []cutting, k int) int {
	greatest := []int{}
	for _, c := range all {
		if c.districts <= k {
			greatest = append(greatest, c.greatest)
		}
	}
	return slices.Min(greatest)
}

// greatestLeastOfCuttings returns how many people the least one of k districts has at most, or -1.
func greatestLeastOfCuttings(all []cutting, k int) int {
	greatest := -1
	for _, c := range all {
		if c.districts == k {
			greatest = max(greatest, c.least)
		}
	}
	return greatest
}
