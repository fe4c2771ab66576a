package cut

import (
	"cmp"
	"slices"

	"pinaster/api"
)

// amounts are grams of each part; those of parts that a run does not have are 0.
type amounts [api.CutParts]int

// Follow returns what each product has of each part, with a truth.
func Follow(r api.CutRun, t api.CutTruth) ([][]int, api.Errno) {
	if e := cmp.Or(Check(r), checkTruth(r, t)); e != api.OK {
		return nil, e
	}
	var products [][]int
	for _, has := range follow(t) {
		products = append(products, slices.Clone(has[:len(r.Parts)]))
	}
	return products, api.OK
}

// follow returns what each product has of each part, the residue last.
func follow(t api.CutTruth) []amounts {
	draws := len(t.Shares)
	products := make([]amounts, draws+1)
	left := amountsOf(t.Parts)
	for draw, shares := range t.Shares {
		if left == (amounts{}) {
			break
		}
		products[draw] = left.drawn(shares)
		left = left.minus(products[draw])
	}
	products[draws] = left
	return products
}

func amountsOf(list []int) amounts {
	var a amounts
	copy(a[:], list)
	return a
}

// drawn returns what some thousandths of each part take of it.
func (a amounts) drawn(shares []int) amounts {
	var taken amounts
	for part := range len(shares) {
		taken[part] = a[part] * shares[part] / api.CutWhole
	}
	return taken
}

func (a amounts) plus(b amounts) amounts {
	for part := range api.CutParts {
		a[part] += b[part]
	}
	return a
}

func (a amounts) minus(b amounts) amounts {
	for part := range api.CutParts {
		a[part] -= b[part]
	}
	return a
}

// but returns the grams of all parts but one.
func (a amounts) but(part int) int { return sum(a[:]...) - a[part] }

func sum[N ~int | ~int64](numbers ...N) N {
	var all N
	for _, n := range numbers {
		all += n
	}
	return all
}
