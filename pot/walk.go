package pot

import (
	"cmp"
	"iter"
	"slices"

	"pinaster/api"
)

// Walk returns the order of pots with the shortest walk, and its length.
func Walk(r api.PotRun, pots []int) (order []int, length int, e api.Errno) {
	if e := cmp.Or(Check(r), checkWalk(r, pots)); e != api.OK {
		return nil, 0, e
	}
	var all [][]int
	var lengths []int
	for order := range orders(slices.Sorted(slices.Values(pots))) {
		all = append(all, order)
		lengths = append(lengths, walked(r, order))
	}
	length = shortest(lengths...)
	return all[slices.Index(lengths, length)], length, api.OK
}

// orders produces all orders of pots that increase, in the order of their lists.
func orders(pots []int) iter.Seq[[]int] {
	return func(yield func([]int) bool) {
		var extend func(order []int) bool
		extend = func(order []int) bool {
			if len(order) == len(pots) {
				return yield(slices.Clone(order))
			}
			for _, pot := range pots {
				if !slices.Contains(order, pot) && !extend(append(order, pot)) {
					return false
				}
			}
			return true
		}
		extend(nil)
	}
}

// walked is the length of a walk from the place 0 0, and back to it.
func walked(r api.PotRun, order []int) int {
	length := 0
	var at api.Pot
	for _, pot := range order {
		length += apart(at, r.Pots[pot])
		at = r.Pots[pot]
	}
	return length + apart(at, api.Pot{})
}

func apart(a, b api.Pot) int { return max(a.X-b.X, b.X-a.X) + max(a.Y-b.Y, b.Y-a.Y) }

// shortest returns the least one of some lengths, of which there is at least one.
func shortest(lengths ...int) int { return slices.Min(lengths) }
