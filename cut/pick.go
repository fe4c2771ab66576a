package cut

import (
	"cmp"
	"iter"
	"slices"

	"pinaster/api"
)

// pick is a run, and the products of it that are looked at.
type pick struct {
	api.CutRun
	products []int
}

// span is one whose ends are methods, so that the wanted one can be kept.
type span api.Span

func (s span) low() int { return s.Low }

func (s span) high() int { return s.High }

// aim is the end that is wanted of the spans of what products get, and of those of what others get.
type aim struct{ ours, others func(span) int }

func fewest() aim { return aim{span.low, span.high} }

func most() aim { return aim{span.high, span.low} }

// Amount returns between what the amount of a part in products lies.
func Amount(r api.CutRun, products []int, part int) (api.Span, api.Errno) {
	if e := cmp.Or(Check(r), checkProducts(r, products), checkPart(r, part)); e != api.OK {
		return api.Span{}, e
	}
	low, high := pick{r, products}.ends()
	return api.Span{Low: low[part], High: high[part]}, api.OK
}

// Grams returns between what the grams of products lie.
func Grams(r api.CutRun, products []int) (api.Span, api.Errno) {
	if e := cmp.Or(Check(r), checkProducts(r, products)); e != api.OK {
		return api.Span{}, e
	}
	return pick{r, products}.grams(), api.OK
}

// Lost returns between what the grams lie that are not kept.
func Lost(r api.CutRun) (api.Span, api.Errno) {
	if e := Check(r); e != api.OK {
		return api.Span{}, e
	}
	return pick{r, slices.Collect(productsOf(r, api.CutLost))}.grams(), api.OK
}

// Pure returns between what the purity of products lies.
func Pure(r api.CutRun, products []int, part int) (api.Span, api.Errno) {
	if e := cmp.Or(Check(r), checkProducts(r, products), checkPart(r, part)); e != api.OK {
		return api.Span{}, e
	}
	return pick{r, products}.pure(part)
}

// productsOf produces the products of a run that are of a kind; the residue is kept.
func productsOf(r api.CutRun, kind int) iter.Seq[int] {
	return func(yield func(int) bool) {
		for draw, d := range r.Draws {
			if d.Kind == kind && !yield(draw) {
				return
			}
		}
		if kind == api.CutKept {
			yield(len(r.Draws))
		}
	}
}

// pure uses that no part depends on another one: the purity is least with least of the part and most of all others. Where both are nothing, all others are nothing with each truth, and what grams there are, are of the part; where most of the part and least of all others are nothing, none of them is.
func (p pick) pure(part int) (api.Span, api.Errno) {
	if p.grams() == (api.Span{}) {
		return api.Span{}, api.ErrNone
	}
	low, high := p.ends()
	return api.Span{
		Low:  thousandths(low[part], high.but(part), api.CutWhole),
		High: thousandths(high[part], low.but(part), 0),
	}, api.OK
}

// thousandths returns how many of them of all grams some are, and what stands for them if there are no grams.
func thousandths(some, others, ofNone int) int {
	if some+others == 0 {
		return ofNone
	}
	return api.CutWhole * some / (some + others)
}

func (p pick) grams() api.Span {
	low, high := p.ends()
	return api.Span{Low: sum(low[:]...), High: sum(high[:]...)}
}

// ends returns the least and the greatest amount of each part in the products.
func (p pick) ends() (low, high amounts) { return p.amounts(fewest()), p.amounts(most()) }

func (p pick) amounts(a aim) amounts {
	var all amounts
	has := follow(p.truth(a))
	for _, product := range p.products {
		all = all.plus(has[product])
	}
	return all
}

// truth returns one with which the products have as little, or as much, of each part as they can have. With a gram more before a draw, and the same thousandths, just one of all products has a gram more. So our products never lose by a gram that one of them takes, even from a later one, nor by a gram that another one leaves.
func (p pick) truth(a aim) api.CutTruth {
	t := api.CutTruth{Parts: endsOf(p.Parts, a.ours)}
	for draw, d := range p.Draws {
		end := a.others
		if slices.Contains(p.products, draw) {
			end = a.ours
		}
		t.Shares = append(t.Shares, endsOf(d.Shares, end))
	}
	return t
}

func endsOf(spans []api.Span, end func(span) int) []int {
	var list []int
	for part := range len(spans) {
		list = append(list, end(span(spans[part])))
	}
	return list
}
