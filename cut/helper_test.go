package cut_test

import (
	"math"
	"slices"

	"pinaster/api"
	"pinaster/cut"
)

// odd are numbers that are in nothing of a run.
var odd = []int{-1, -2, math.MinInt, math.MaxInt, math.MinInt32, math.MinInt + 1, math.MaxInt - 1}

func span(low, high int) api.Span { return api.Span{Low: low, High: high} }

func draw(kind int, shares ...api.Span) api.CutDraw { return api.CutDraw{Kind: kind, Shares: shares} }

// small is the run of the chapter's examples.
func small() api.CutRun {
	return api.CutRun{
		Parts: []api.Span{span(1000, 1200), span(500, 500)},
		Draws: []api.CutDraw{
			draw(api.CutLost, span(10, 20), span(0, 10)),
			draw(api.CutKept, span(700, 800), span(100, 200)),
			draw(api.CutKept, span(500, 500), span(600, 900)),
		},
	}
}

// truth is that of the chapter's examples.
func truth() api.CutTruth {
	return api.CutTruth{Parts: []int{1000, 500}, Shares: [][]int{{20, 10}, {700, 100}, {500, 600}}}
}

// stocks are those of the chapter's examples.
func stocks() []int { return []int{100, 60} }

func recipe(price, most int, needs ...int) api.CutRecipe {
	return api.CutRecipe{Needs: needs, Price: price, Most: most}
}

// recipes are those of the chapter's examples.
func recipes() []api.CutRecipe { return []api.CutRecipe{recipe(50, 5, 30, 10), recipe(70, 5, 20, 25)} }

// bare is a run without draws.
func bare(parts ...api.Span) api.CutRun { return api.CutRun{Parts: parts} }

// wrongRun is wrong in one thing that is easily left out.
func wrongRun() api.CutRun {
	r := small()
	r.Draws[2].Shares = append(r.Draws[2].Shares, span(0, 0))
	return r
}

func clone(r api.CutRun) api.CutRun {
	r.Parts, r.Draws = slices.Clone(r.Parts), slices.Clone(r.Draws)
	for i := range r.Draws {
		r.Draws[i].Shares = slices.Clone(r.Draws[i].Shares)
	}
	return r
}

// dice throws the same numbers in each run of the tests.
type dice struct{ seed uint64 }

// upTo throws a number from 0 to most.
func (d *dice) upTo(most int) int {
	d.seed = d.seed*6364136223846793005 + 1442695040888963407
	return int(d.seed >> 33 % uint64(most+1))
}

func (d *dice) from(least, most int) int { return least + d.upTo(most-least) }

func (d *dice) in(s api.Span) int { return d.from(s.Low, s.High) }

func (d *dice) span(least, most int) api.Span {
	low := d.from(least, most)
	return span(low, d.from(low, most))
}

// run throws a valid run with at most so many grams of a part.
func (d *dice) run(parts, draws, grams int) api.CutRun {
	var r api.CutRun
	for range parts {
		r.Parts = append(r.Parts, d.span(0, grams))
	}
	for range draws {
		x := api.CutDraw{Kind: d.upTo(3) / 3}
		for range parts {
			x.Shares = append(x.Shares, d.shares())
		}
		r.Draws = append(r.Draws, x)
	}
	return r
}

// shares throws a span of thousandths: often a short one, or one with an end that is an edge.
func (d *dice) shares() api.Span {
	switch low := d.upTo(1000); d.upTo(5) {
	case 0:
		return span(low, low)
	case 1:
		return span(0, low)
	case 2:
		return span(low, 1000)
	case 3:
		return d.span(0, 1000)
	default:
		return span(low, min(1000, low+d.upTo(40)))
	}
}

func (d *dice) truth(r api.CutRun) api.CutTruth {
	var t api.CutTruth
	for _, s := range r.Parts {
		t.Parts = append(t.Parts, d.in(s))
	}
	for _, x := range r.Draws {
		var shares []int
		for _, s := range x.Shares {
			shares = append(shares, d.in(s))
		}
		t.Shares = append(t.Shares, shares)
	}
	return t
}

// products throws some products of a run.
func (d *dice) products(r api.CutRun) []int {
	var list []int
	for product := range len(r.Draws) + 1 {
		if d.upTo(1) == 0 {
			list = append(list, product)
		}
	}
	return list
}

func (d *dice) order(r api.CutRun, grams int) api.CutOrder {
	return api.CutOrder{Part: d.upTo(len(r.Parts) - 1), Grams: d.upTo(grams), Pure: d.upTo(1000)}
}

// narrower throws a run whose spans lie in those of a run.
func (d *dice) narrower(r api.CutRun) api.CutRun {
	r = clone(r)
	for i, s := range r.Parts {
		r.Parts[i] = d.span(s.Low, s.High)
	}
	for _, x := range r.Draws {
		for i, s := range x.Shares {
			x.Shares[i] = d.span(s.Low, s.High)
		}
	}
	return r
}

// recipes throws valid stocks and recipes, of which some batches are often too many.
func (d *dice) recipes(many, most int) ([]int, []api.CutRecipe) {
	var stocks []int
	for range d.from(1, 5) {
		stocks = append(stocks, d.upTo(100))
	}
	var l []api.CutRecipe
	for range many {
		x := api.CutRecipe{Price: d.upTo(4), Most: d.upTo(most)}
		for range stocks {
			x.Needs = append(x.Needs, d.upTo(3)*d.upTo(12))
		}
		l = append(l, x)
	}
	return stocks, l
}

func isKept(r api.CutRun, product int) bool {
	return product == len(r.Draws) || r.Draws[product].Kind == api.CutKept
}

// amountsOf are all amounts of a part that products can have, increasing, found by trying all grams and all thousandths.
func amountsOf(r api.CutRun, products []int, part int) []int {
	type state struct{ left, got int }
	states := map[state]bool{}
	for grams := r.Parts[part].Low; grams <= r.Parts[part].High; grams++ {
		states[state{grams, 0}] = true
	}
	for i, x := range r.Draws {
		next := map[state]bool{}
		for s := range states {
			for share := x.Shares[part].Low; share <= x.Shares[part].High; share++ {
				taken := s.left * share / 1000
				after := state{s.left - taken, s.got}
				if slices.Contains(products, i) {
					after.got += taken
				}
				next[after] = true
			}
		}
		states = next
	}
	var all []int
	for s := range states {
		if slices.Contains(products, len(r.Draws)) {
			s.got += s.left
		}
		all = append(all, s.got)
	}
	slices.Sort(all)
	return slices.Compact(all)
}

// charges are all amounts of the part, and all of the others together, that products can have at the same time.
func charges(r api.CutRun, products []int, part int) (some, others []int) {
	others = []int{0}
	for i := range r.Parts {
		if i == part {
			continue
		}
		var sums []int
		for _, n := range amountsOf(r, products, i) {
			for _, m := range others {
				sums = append(sums, n+m)
			}
		}
		slices.Sort(sums)
		others = slices.Compact(sums)
	}
	return amountsOf(r, products, part), others
}

// question is what all functions are asked.
type question struct {
	r        api.CutRun
	t        api.CutTruth
	products []int
	part     int
	o        api.CutOrder
	stocks   []int
	l        []api.CutRecipe
	mix      []int
}

func ask() question {
	return question{small(), truth(), []int{1, 2}, 1, api.CutOrder{Grams: 700, Pure: 600}, stocks(), recipes(), []int{2, 1}}
}

// names are the functions, in the order of answers: first those with a run.
var names = []string{"Check", "Follow", "Amount", "Grams", "Pure", "Fulfils", "Blend", "Lost", "CheckRecipes", "Brings", "Make"}

// answers are the errors that all functions return: -1 where another result is not zero with an error.
func (q question) answers() []api.Errno {
	zeroWith := func(e api.Errno, zero bool) api.Errno {
		if e != api.OK && !zero {
			return -1
		}
		return e
	}
	rows, e1 := cut.Follow(q.r, q.t)
	amount, e2 := cut.Amount(q.r, q.products, q.part)
	grams, e3 := cut.Grams(q.r, q.products)
	pure, e4 := cut.Pure(q.r, q.products, q.part)
	is, e5 := cut.Fulfils(q.r, q.o, q.products)
	blend, e6 := cut.Blend(q.r, q.o)
	lost, e7 := cut.Lost(q.r)
	brings, e8 := cut.Brings(q.stocks, q.l, q.mix)
	mix, most, e9 := cut.Make(q.stocks, q.l)
	return []api.Errno{
		cut.Check(q.r),
		zeroWith(e1, len(rows) == 0),
		zeroWith(e2, amount == api.Span{}),
		zeroWith(e3, grams == api.Span{}),
		zeroWith(e4, pure == api.Span{}),
		zeroWith(e5, !is),
		zeroWith(e6, len(blend) == 0),
		zeroWith(e7, lost == api.Span{}),
		cut.CheckRecipes(q.stocks, q.l),
		zeroWith(e8, brings == 0),
		zeroWith(e9, len(mix) == 0 && most == 0),
	}
}
