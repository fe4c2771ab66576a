package stand

import (
	"cmp"
	"slices"

	"pinaster/api"
)

// Thin returns the trees that are left with a gap.
func Thin(s api.Stand, gap int) (kept []int, worth int, e api.Errno) {
	if e := cmp.Or(Check(s), checkRange(gap, 0, mostApart)); e != api.OK {
		return nil, 0, e
	}
	kept, worth = worthiest(s.Trees, gap)
	return kept, worth, api.OK
}

// Left returns the stand with some of its trees.
func Left(s api.Stand, kept []int) (api.Stand, api.Errno) {
	if e := cmp.Or(Check(s), checkKept(s, kept)); e != api.OK {
		return api.Stand{}, e
	}
	trees := make([]api.Tree, len(kept))
	for i, tree := range kept {
		trees[i] = s.Trees[tree]
	}
	s.Trees = trees
	return s, api.OK
}

// worthiest searches the sets of trees with a gap in the order of their lists, so that the first of the best is kept.
func worthiest(trees []api.Tree, gap int) (best []int, most int) {
	from := worthFrom(trees)
	var search func(set []int, worth, next int)
	search = func(set []int, worth, next int) {
		if worth > most {
			best, most = slices.Clone(set), worth
		}
	trees:
		for i := next; i < len(trees); i++ {
			if worth+from[i] <= most {
				break trees
			}
			for _, k := range set {
				if isWithin(trees[k], trees[i], gap) {
					continue trees
				}
			}
			search(append(set, i), worth+trees[i].Girth.Low, i+1)
		}
	}
	search(nil, 0, 0)
	return best, most
}

// worthFrom returns what each tree is worth together with all trees behind it.
func worthFrom(trees []api.Tree) []int {
	from := make([]int, len(trees))
	sum := 0
	for i := len(trees) - 1; i >= 0; i-- {
		sum += trees[i].Girth.Low
		from[i] = sum
	}
	return from
}

func checkKept(s api.Stand, kept []int) api.Errno {
	least := 0
	for _, tree := range kept {
		if !isFrom(tree, least, len(s.Trees)-1) {
			return api.ErrTree
		}
		least = tree + 1
	}
	return api.OK
}
