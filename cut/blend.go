package cut

import (
	"cmp"
	"slices"

	"pinaster/api"
)

// Fulfils reports whether products fulfil an order.
func Fulfils(r api.CutRun, o api.CutOrder, products []int) (bool, api.Errno) {
	if e := cmp.Or(Check(r), checkOrder(r, o), checkProducts(r, products)); e != api.OK {
		return false, e
	}
	p := pick{r, products}
	return p.areKept() && p.fulfil(o), api.OK
}

// Blend returns the fewest products that fulfil an order.
func Blend(r api.CutRun, o api.CutOrder) ([]int, api.Errno) {
	if e := cmp.Or(Check(r), checkOrder(r, o)); e != api.OK {
		return nil, e
	}
	kept := slices.Collect(productsOf(r, api.CutKept))
	for many := range len(kept) + 1 {
		if blend, ok := blendOf(r, o, kept, many); ok {
			return blend, api.OK
		}
	}
	return nil, api.ErrNone
}

func (p pick) areKept() bool {
	for product := range productsOf(p.CutRun, api.CutLost) {
		if slices.Contains(p.products, product) {
			return false
		}
	}
	return true
}

// fulfil reports whether products that are kept fulfil an order: they are least pure with least of the part and most of the others.
func (p pick) fulfil(o api.CutOrder) bool {
	low, high := p.ends()
	some, others := low[o.Part], high.but(o.Part)
	return sum(low[:]...) >= o.Grams && api.CutWhole*some >= o.Pure*(some+others)
}

// blendOf returns the first blend of so many kept products that fulfils an order.
func blendOf(r api.CutRun, o api.CutOrder, kept []int, many int) (blend []int, found bool) {
	var search func(chosen, rest []int)
	search = func(chosen, rest []int) {
		if len(chosen) == many {
			blend, found = slices.Clone(chosen), pick{r, chosen}.fulfil(o)
			return
		}
	choosing:
		for i, product := range rest {
			if search(append(chosen, product), rest[i+1:]); found {
				break choosing
			}
		}
	}
	search(nil, kept)
	return blend, found
}
