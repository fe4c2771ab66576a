package cut

import (
	"slices"

	"pinaster/api"
)

// store is what is left of each stock; that of stocks that there are not is 0.
type store [api.CutStocks]int

// turn is the recipe that is next, with what is left of the stocks.
type turn struct {
	recipe int
	left   store
}

// offer is a mix, and what it brings.
type offer struct {
	mix    [api.CutRecipes]int
	brings int
}

// Brings returns what a mix brings.
func Brings(stocks []int, l []api.CutRecipe, mix []int) (int, api.Errno) {
	if e := CheckRecipes(stocks, l); e != api.OK {
		return 0, e
	}
	if !isMix(stocks, l, mix) {
		return 0, api.ErrRange
	}
	brings := 0
	for i, batches := range mix {
		brings += batches * l[i].Price
	}
	return brings, api.OK
}

// Make returns the mix that brings most.
func Make(stocks []int, l []api.CutRecipe) (mix []int, brings int, e api.Errno) {
	if e := CheckRecipes(stocks, l); e != api.OK {
		return nil, 0, e
	}
	best := bestOffer(stocks, l)
	return slices.Clone(best.mix[:len(l)]), best.brings, api.OK
}

func isMix(stocks []int, l []api.CutRecipe, mix []int) bool {
	if len(mix) != len(l) {
		return false
	}
	left := storeOf(stocks)
	for i, batches := range mix {
		if !isFrom(batches, 0, l[i].Most) {
			return false
		}
		left = left.after(l[i], batches)
	}
	return left.isEnough()
}

func storeOf(stocks []int) store {
	var s store
	copy(s[:], stocks)
	return s
}

// after returns what is left after some batches of a recipe: less than nothing, if they need more than there is.
func (s store) after(x api.CutRecipe, batches int) store {
	for i, need := range x.Needs {
		s[i] -= batches * need
	}
	return s
}

func (s store) isEnough() bool { return slices.Min(s[:]) >= 0 }

// bestOffer searches all mixes, but what is left for the recipes that follow only once. Fewer batches are tried first, so of several that bring most the first one is found.
func bestOffer(stocks []int, l []api.CutRecipe) offer {
	known := map[turn]offer{}
	var search func(now turn) offer
	search = func(now turn) offer {
		if now.recipe == len(l) {
			return offer{}
		}
		if best, ok := known[now]; ok {
			return best
		}
		var best offer
		x := l[now.recipe]
		for batches := range x.Most + 1 {
			left := now.left.after(x, batches)
			if !left.isEnough() {
				break
			}
			o := search(turn{now.recipe + 1, left})
			o.mix[now.recipe] = batches
			o.brings += batches * x.Price
			if o.brings > best.brings {
				best = o
			}
		}
		known[now] = best
		return best
	}
	return search(turn{left: storeOf(stocks)})
}
