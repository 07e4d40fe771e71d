package tests

import (
	"slices"

	"loop.example/helpersinreach/impl"
)

// mall is a street of n houses with shops.
type mall struct {
	n     int
	shops []int
}

// mallsOf returns all streets with a number of shops from fewest up to most.
func mallsOf(fewest int, most int) []mall {
	malls := []mall{}
	for n := 1; n <= impl.MaxStreet; n++ {
		for _, shops := range allHomes(placesUpTo(n-1), most) {
			if len(shops) >= fewest {
				malls = append(malls, mall{n, shops})
			}
		}
	}
	return malls
}

// allMalls returns all streets with all lists of shops.
func allMalls() []mall {
	return mallsOf(1, impl.MaxShops)
}

// turnedRound returns a street with its shops as they are seen from the other end.
func (m mall) turnedRound() mall {
	seen := []int{}
	for _, place := range otherWay(m.shops) {
		seen = append(seen, m.n-1-place)
	}
	return mall{m.n, seen}
}

// isMall reports whether there are as many houses and shops as may be, each shop is at a house, and each two of them are in order.
func (m mall) isMall() bool {
	if m.n < 1 || m.n > impl.MaxStreet || len(m.shops) < 1 || len(m.shops) > impl.MaxShops {
		return false
	}
	for i, place := range m.shops {
		if place < 0 || place >= m.n || slices.Max(m.shops[:i+1]) != place {
			return false
		}
	}
	return true
}

// sharesByHouses returns twelve times how many houses go to each shop, house by house; the shops may be in any order.
func (m mall) sharesByHouses() []int {
	shares := make([]int, len(m.shops))
	for house := range m.n {
		ways := []int{}
		for _, place := range m.shops {
			ways = append(ways, apart(house, place))
		}
		nearest := slices.Min(ways)
		for i, way := range ways {
			if way == nearest {
				shares[i] += 12 / countOf(ways, nearest)
			}
		}
	}
	return shares
}

// countOf returns how often a number is in a list.
func countOf(list []int, number int) int {
	count := 0
	for _, one := range list {
		if one == number {
			count++
		}
	}
	return count
}

// sharesOfOneMore returns for each place the share that one more shop has there.
func (m mall) sharesOfOneMore() []int {
	shares := []int{}
	for place := range m.n {
		more := mall{m.n, append(slices.Clone(m.shops), place)}
		shares = append(shares, more.sharesByHouses()[len(m.shops)])
	}
	return shares
}

// restsByMoves reports whether no shop has more when it alone is moved to any place.
func (m mall) restsByMoves() bool {
	shares := m.sharesByHouses()
	for i := range m.shops {
		for place := range m.n {
			moved := mall{m.n, slices.Clone(m.shops)}
			moved.shops[i] = place
			if moved.sharesByHouses()[i] > shares[i] {
				return false
			}
		}
	}
	return true
}

// restsOfAll returns all lists of k shops that rest, that with the lesser place at the first index where two differ first.
func restsOfAll(n int, k int) [][]int {
	rests := [][]int{}
	for _, m := range mallsOf(k, k) {
		if m.n == n && m.restsByMoves() {
			rests = append(rests, m.shops)
		}
	}
	slices.SortFunc(rests, slices.Compare)
	return rests
}
