package tests

import (
	"math/big"

	"loop.example/helpersinreach/impl"
)

// load is so many calls in so many times.
type load struct {
	up   int
	down int
}

// allLoads returns all loads that are valid.
func allLoads() []load {
	all := []load{}
	for up := range impl.MaxLoad + 1 {
		for down := 1; down <= impl.MaxLoad; down++ {
			all = append(all, load{up, down})
		}
	}
	return all
}

// eachBusy calls look for all loads and all numbers of helpers.
func eachBusy(look func(l load, k int)) {
	for _, l := range allLoads() {
		for k := range impl.MaxBusy + 1 {
			look(l, k)
		}
	}
}

// ratio returns a load as a number.
func (l load) ratio() *big.Rat {
	return big.NewRat(int64(l.up), int64(l.down))
}

// ratOf returns a fraction as a number.
func ratOf(f impl.Frac) *big.Rat {
	return big.NewRat(int64(f.Up), int64(f.Down))
}

// fracOfRat returns a number as a fraction in lowest terms.
func fracOfRat(x *big.Rat) impl.Frac {
	return impl.Frac{Up: int(x.Num().Int64()), Down: int(x.Denom().Int64())}
}

// sumOfRats returns the sum of numbers.
func sumOfRats(list []*big.Rat) *big.Rat {
	sum := new(big.Rat)
	for _, x := range list {
		sum.Add(sum, x)
	}
	return sum
}

// sharesByTerms returns the shares of all numbers of k helpers that are busy, from the load to the number,
// divided by the product of the numbers up to it, of all of which it is divided by the sum.
func sharesByTerms(l load, k int) []*big.Rat {
	terms := []*big.Rat{}
	for j := range k + 1 {
		term := big.NewRat(1, 1)
		for i := 1; i <= j; i++ {
			term.Mul(term, l.ratio())
			term.Quo(term, big.NewRat(int64(i), 1))
		}
		terms = append(terms, term)
	}
	sum := sumOfRats(terms)
	shares := []*big.Rat{}
	for _, term := range terms {
		shares = append(shares, new(big.Rat).Quo(term, sum))
	}
	return shares
}

// meanOfShares returns the mean number of busy helpers, from the share of time of each number.
func meanOfShares(shares []*big.Rat) *big.Rat {
	parts := []*big.Rat{}
	for j, share := range shares {
		parts = append(parts, new(big.Rat).Mul(share, big.NewRat(int64(j), 1)))
	}
	return sumOfRats(parts)
}

// enoughOfAll returns the least number of helpers with which at most one call in so many is lost, or -1, of all numbers of them.
func enoughOfAll(l load, many int) int {
	enough := -1
	for k := impl.MaxBusy; k >= 0; k-- {
		lost := sharesByTerms(l, k)[k]
		if lost.Cmp(big.NewRat(1, int64(many))) <= 0 {
			enough = k
		}
	}
	return enough
}
