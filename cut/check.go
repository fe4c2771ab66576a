// Package cut follows turpentine through the draws of a still, part by part: how much of each is in each fraction, how pure fractions and blends of them surely are, and which batches of goods bring most.
package cut

import "pinaster/api"

// mostOrder is the greatest number of grams that an order asks for.
const mostOrder = 1000000000

// Check checks a run.
func Check(r api.CutRun) api.Errno {
	if !isFrom(len(r.Parts), 1, api.CutParts) || !areSpans(r.Parts, api.CutGrams) || !areDraws(r) {
		return api.ErrCutRun
	}
	return api.OK
}

// CheckRecipes checks stocks and recipes.
func CheckRecipes(stocks []int, l []api.CutRecipe) api.Errno {
	if !isFrom(len(stocks), 1, api.CutStocks) || !areFrom(stocks, 0, api.CutGrams) || !areRecipes(l, len(stocks)) {
		return api.ErrCutRecipe
	}
	return api.OK
}

func areDraws(r api.CutRun) bool {
	if len(r.Draws) > api.CutDraws {
		return false
	}
	for _, d := range r.Draws {
		if !isFrom(d.Kind, api.CutKept, api.CutLost) || len(d.Shares) != len(r.Parts) || !areSpans(d.Shares, api.CutWhole) {
			return false
		}
	}
	return true
}

func areRecipes(l []api.CutRecipe, stocks int) bool {
	if !isFrom(len(l), 1, api.CutRecipes) {
		return false
	}
	for _, x := range l {
		if len(x.Needs) != stocks || !areFrom(x.Needs, 0, api.CutGrams) ||
			!isFrom(x.Price, 0, api.CutPrice) || !isFrom(x.Most, 0, api.CutBatches) {
			return false
		}
	}
	return true
}

func checkTruth(r api.CutRun, t api.CutTruth) api.Errno {
	if !areIn(t.Parts, r.Parts) || len(t.Shares) != len(r.Draws) {
		return api.ErrCutTruth
	}
	for draw, shares := range t.Shares {
		if !areIn(shares, r.Draws[draw].Shares) {
			return api.ErrCutTruth
		}
	}
	return api.OK
}

func checkPart(r api.CutRun, part int) api.Errno {
	if !isFrom(part, 0, len(r.Parts)-1) {
		return api.ErrCutPart
	}
	return api.OK
}

func checkProducts(r api.CutRun, products []int) api.Errno {
	least := 0
	for _, product := range products {
		if !isFrom(product, least, len(r.Draws)) {
			return api.ErrCutPart
		}
		least = product + 1
	}
	return api.OK
}

func checkOrder(r api.CutRun, o api.CutOrder) api.Errno {
	if checkPart(r, o.Part) != api.OK || !isFrom(o.Grams, 0, mostOrder) || !isFrom(o.Pure, 0, api.CutWhole) {
		return api.ErrCutOrder
	}
	return api.OK
}

func isFrom(n, least, most int) bool { return n >= least && n <= most }

func areFrom(list []int, least, most int) bool {
	for _, n := range list {
		if !isFrom(n, least, most) {
			return false
		}
	}
	return true
}

// areIn reports whether there is one number for each span, and it lies in it.
func areIn(list []int, spans []api.Span) bool {
	if len(list) != len(spans) {
		return false
	}
	for i, s := range spans {
		if !isFrom(list[i], s.Low, s.High) {
			return false
		}
	}
	return true
}

func areSpans(spans []api.Span, most int) bool {
	for _, s := range spans {
		if s.Low < 0 || s.High > most || s.Low > s.High {
			return false
		}
	}
	return true
}
