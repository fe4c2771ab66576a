package cut_test

import (
	"math"
	"slices"
	"strconv"
	"testing"

	"pinaster/api"
	"pinaster/cut"
)

// P6.1

// limit is one number of a question, and from where to where it may be.
type limit struct {
	name        string
	at          func(q *question) *int
	least, most int
}

func runLimits() []limit {
	all := []limit{
		{"grams low", func(q *question) *int { return &q.r.Parts[0].Low }, 0, 1200},
		{"grams high", func(q *question) *int { return &q.r.Parts[0].High }, 1000, 100000000},
		{"grams low of the last part", func(q *question) *int { return &q.r.Parts[1].Low }, 0, 500},
		{"grams high of the last part", func(q *question) *int { return &q.r.Parts[1].High }, 500, 100000000},
	}
	for i, x := range small().Draws {
		all = append(all, limit{"kind of the draw " + strconv.Itoa(i), func(q *question) *int { return &q.r.Draws[i].Kind }, 0, 1})
		for k, s := range x.Shares {
			n := " of the part " + strconv.Itoa(k) + " in the draw " + strconv.Itoa(i)
			all = append(all,
				limit{"low" + n, func(q *question) *int { return &q.r.Draws[i].Shares[k].Low }, 0, s.High},
				limit{"high" + n, func(q *question) *int { return &q.r.Draws[i].Shares[k].High }, s.Low, 1000},
			)
		}
	}
	return all
}

func recipeLimits() []limit {
	all := []limit{
		{"the first stock", func(q *question) *int { return &q.stocks[0] }, 0, 100000000},
		{"the last stock", func(q *question) *int { return &q.stocks[1] }, 0, 100000000},
	}
	for i, x := range recipes() {
		n := " of the recipe " + strconv.Itoa(i)
		all = append(all,
			limit{"price" + n, func(q *question) *int { return &q.l[i].Price }, 0, 100000},
			limit{"most" + n, func(q *question) *int { return &q.l[i].Most }, 0, 20},
		)
		for k := range x.Needs {
			all = append(all, limit{"need " + strconv.Itoa(k) + n, func(q *question) *int { return &q.l[i].Needs[k] }, 0, 100000000})
		}
	}
	return all
}

func checkLimits(t *testing.T, limits []limit, wrong api.Errno, check func(q question) api.Errno) {
	t.Helper()
	for _, x := range limits {
		for n, want := range map[int]api.Errno{
			x.least: api.OK, x.most: api.OK,
			x.least - 1: wrong, x.most + 1: wrong, math.MinInt: wrong, math.MaxInt: wrong,
		} {
			q := ask()
			*x.at(&q) = n
			if e := check(q); e != want {
				t.Errorf("%s %d: %d, want %d", x.name, n, e, want)
			}
		}
	}
}

func TestLimits(t *testing.T) {
	checkLimits(t, runLimits(), api.ErrCutRun, func(q question) api.Errno { return cut.Check(q.r) })
	checkLimits(t, recipeLimits(), api.ErrCutRecipe, func(q question) api.Errno { return cut.CheckRecipes(q.stocks, q.l) })
}

func TestLengthsOfRuns(t *testing.T) {
	for parts := range 8 {
		for draws := range 12 {
			r := (&dice{1}).run(parts, draws, 100)
			if e := cut.Check(r); (e == api.OK) != (parts >= 1 && parts <= 5 && draws <= 8) || e != api.OK && e != api.ErrCutRun {
				t.Errorf("%d parts, %d draws: %d", parts, draws, e)
			}
			for shares := range 8 {
				if shares == parts || draws == 0 {
					continue
				}
				wrong := clone(r)
				wrong.Draws[draws-1].Shares = make([]api.Span, shares)
				if e := cut.Check(wrong); e != api.ErrCutRun {
					t.Errorf("%d parts, %d shares: %d", parts, shares, e)
				}
			}
		}
	}
}

func TestLengthsOfRecipes(t *testing.T) {
	for stocks := range 8 {
		for many := range 7 {
			l := slices.Repeat([]api.CutRecipe{{Needs: make([]int, stocks)}}, many)
			if e := cut.CheckRecipes(make([]int, stocks), l); (e == api.OK) != (stocks >= 1 && stocks <= 5 && many >= 1 && many <= 4) || e != api.OK && e != api.ErrCutRecipe {
				t.Errorf("%d stocks, %d recipes: %d", stocks, many, e)
			}
			for needs := range 8 {
				if needs == stocks || many == 0 {
					continue
				}
				wrong := slices.Clone(l)
				wrong[many-1].Needs = make([]int, needs)
				if e := cut.CheckRecipes(make([]int, stocks), wrong); e != api.ErrCutRecipe {
					t.Errorf("%d stocks, %d needs: %d", stocks, needs, e)
				}
			}
		}
	}
}

// expect checks what the functions with some names answer.
func expect(t *testing.T, q question, want api.Errno, of ...string) {
	t.Helper()
	for i, e := range q.answers() {
		if slices.Contains(of, names[i]) && e != want {
			t.Errorf("%s with %+v: %d, want %d", names[i], q, e, want)
		}
	}
}

func TestErrorsOfRunsAndRecipesComeFirst(t *testing.T) {
	expect(t, ask(), api.OK, names...)
	long, few, kind := small(), small(), small()
	long.Draws = make([]api.CutDraw, 5000)
	few.Draws[0].Shares = nil
	kind.Draws[2].Kind = math.MaxInt
	for _, r := range []api.CutRun{wrongRun(), {}, long, few, kind, bare(make([]api.Span, 5000)...)} {
		for _, n := range append(slices.Clone(odd), 0, 1, 110) {
			for _, list := range [][]int{nil, {n}, {n, n, n}, make([]int, 5000)} {
				t1 := api.CutTruth{Parts: list, Shares: [][]int{list, list, list}}
				q := question{r, t1, list, n, api.CutOrder{Part: n, Grams: n, Pure: n}, list, make([]api.CutRecipe, 5), list}
				expect(t, q, api.ErrCutRun, names[:8]...)
				expect(t, q, api.ErrCutRecipe, names[8:]...)
				q.t = api.CutTruth{Parts: []int{1}, Shares: make([][]int, 5000)}
				q.stocks, q.l = stocks(), []api.CutRecipe{{Most: 20}, {Needs: list}}
				expect(t, q, api.ErrCutRun, "Follow")
				expect(t, q, api.ErrCutRecipe, names[8:]...)
			}
		}
	}
}

func TestErrorsOfProductsAndParts(t *testing.T) {
	var bad [][]int
	for _, n := range append(slices.Clone(odd), 4, 5, 9) {
		bad = append(bad, []int{n}, []int{0, n}, []int{n, 0}, []int{0, 1, 2, 3, n}, []int{n, 3})
	}
	bad = append(bad, []int{1, 0}, []int{0, 0}, []int{3, 3}, []int{0, 1, 1}, []int{0, 2, 1}, make([]int, 5000))
	for _, list := range bad {
		q := ask()
		q.products = list
		expect(t, q, api.ErrCutPart, "Amount", "Grams", "Pure", "Fulfils")
		expect(t, q, api.OK, "Check", "Follow", "Blend", "Lost")
		q.part = 7
		expect(t, q, api.ErrCutPart, "Amount", "Grams", "Pure", "Fulfils")
	}
	for _, n := range append(slices.Clone(odd), 2, 3, 5) {
		for _, list := range [][]int{nil, {0, 1, 2, 3}} { // not ErrNone, where the products are none
			q := ask()
			q.products, q.part = list, n
			expect(t, q, api.ErrCutPart, "Amount", "Pure")
			expect(t, q, api.OK, "Grams", "Fulfils", "Blend", "Lost")
		}
	}
	for _, list := range [][]int{{0}, {1}, {2}, {3}, {0, 3}, {1, 2}, {0, 1, 2, 3}} {
		for part := range 2 {
			q := ask()
			q.products, q.part = list, part
			expect(t, q, api.OK, "Amount", "Grams", "Pure", "Fulfils")
		}
	}
}

func TestErrorsOfOrders(t *testing.T) {
	for _, o := range []api.CutOrder{
		{Part: 2}, {Part: -1}, {Part: 5}, {Part: math.MinInt}, {Part: math.MaxInt},
		{Grams: -1}, {Grams: 1000000001}, {Grams: math.MinInt}, {Grams: math.MaxInt},
		{Pure: -1}, {Pure: 1001}, {Pure: math.MinInt}, {Pure: math.MaxInt},
	} {
		for _, products := range [][]int{nil, {1}, {9}, {1, 1}} {
			q := ask()
			q.o, q.products = o, products
			expect(t, q, api.ErrCutOrder, "Fulfils", "Blend")
		}
	}
	for _, o := range []api.CutOrder{{}, {Part: 1, Pure: 1000}, {Part: 1, Grams: 1000000000}, {Grams: 1000000000, Pure: 1000}} {
		q := ask()
		q.o = o
		expect(t, q, api.OK, "Fulfils")
		q.products = []int{2, 1}
		expect(t, q, api.ErrCutPart, "Fulfils")
	}
}

func TestErrorsOfMixes(t *testing.T) {
	for _, mix := range [][]int{
		nil, {}, {1}, {0}, {1, 1, 0}, {0, 0, 0}, make([]int, 5000),
		{-1, 0}, {0, -1}, {6, 0}, {0, 6}, {4, 0}, {0, 3}, {3, 1}, {2, 2}, {-1, 3},
		{math.MinInt, 0}, {math.MaxInt, 0}, {0, math.MaxInt}, {1 << 62, 0}, {1 << 63 / 30, 0},
	} {
		q := ask()
		q.mix = mix
		expect(t, q, api.ErrRange, "Brings")
		expect(t, q, api.OK, "Make")
	}
}
