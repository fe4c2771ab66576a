package cut_test

import (
	"reflect"
	"slices"
	"testing"

	"pinaster/api"
	"pinaster/cut"
)

// roomy returns a list with room behind it, and all of that room.
func roomy[T any](list []T, canary T) (short, whole []T) {
	whole = append(slices.Clone(list), canary, canary, canary)
	return whole[:len(list)], whole
}

// P6.7

func TestArgumentsAreOnlyRead(t *testing.T) {
	q := ask()
	var lists [][]int
	room := func(list []int) []int {
		short, whole := roomy(list, -7)
		lists = append(lists, whole)
		return short
	}
	parts, allParts := roomy(q.r.Parts, span(-7, -7))
	draws, allDraws := roomy(q.r.Draws, api.CutDraw{Kind: -7})
	var allShares [][]api.Span
	for i := range draws {
		shares, whole := roomy(draws[i].Shares, span(-7, -7))
		draws[i].Shares = shares
		allShares = append(allShares, whole)
	}
	q.r.Parts, q.r.Draws = parts, draws
	q.t.Parts = room(q.t.Parts)
	for i, shares := range q.t.Shares {
		q.t.Shares[i] = room(shares)
	}
	q.products, q.stocks, q.mix = room(q.products), room(q.stocks), room(q.mix)
	l, allRecipes := roomy(q.l, api.CutRecipe{Price: -7})
	for i := range l {
		l[i].Needs = room(l[i].Needs)
	}
	q.l = l
	var before [][]int
	for _, list := range lists {
		before = append(before, slices.Clone(list))
	}

	expect(t, q, api.OK, names...)

	if !reflect.DeepEqual(lists, before) {
		t.Errorf("the lists: %v, were %v", lists, before)
	}
	if !slices.Equal(allParts, append(ask().r.Parts, span(-7, -7), span(-7, -7), span(-7, -7))) || !reflect.DeepEqual(q.r, ask().r) || allDraws[3].Kind != -7 {
		t.Errorf("the run: %v, %v", allParts, allDraws)
	}
	for i, whole := range allShares {
		if !slices.Equal(whole, append(ask().r.Draws[i].Shares, span(-7, -7), span(-7, -7), span(-7, -7))) {
			t.Errorf("the shares of the draw %d: %v", i, whole)
		}
	}
	if !reflect.DeepEqual(q.l, ask().l) || allRecipes[2].Price != -7 {
		t.Errorf("the recipes: %v", allRecipes)
	}
}

func TestResultsAreNew(t *testing.T) {
	q := ask()
	q.o.Grams = 1200
	lists := func() [][]int {
		rows, _ := cut.Follow(q.r, q.t)
		blend, _ := cut.Blend(q.r, q.o)
		mix, _, _ := cut.Make(q.stocks, q.l)
		return append(rows, blend, mix)
	}
	want := lists()
	for i := range want {
		first := lists()
		if len(first[i]) == 0 {
			t.Errorf("the result %d is empty", i)
		}
		for k := range first[i][:cap(first[i])] { // also the room behind it
			first[i][:cap(first[i])][k] = -9
		}
		for k, list := range first { // no two lists of one result share memory
			if k != i && !slices.Equal(list, want[k]) {
				t.Errorf("the results %d and %d share memory: %v", i, k, list)
			}
		}
		if again := lists(); !reflect.DeepEqual(again, want) {
			t.Errorf("the result %d is kept: %v", i, again)
		}
	}
	q.o = ask().o
	if !reflect.DeepEqual(q, ask()) {
		t.Errorf("the arguments share memory with results: %+v", q)
	}
}

// P2

func TestSameArgumentsSameResults(t *testing.T) {
	d := &dice{12}
	results := func(r api.CutRun, o api.CutOrder, stocks []int, l []api.CutRecipe) []any {
		blend, e1 := cut.Blend(r, o)
		pure, e2 := cut.Pure(r, []int{0}, 0)
		mix, brings, e3 := cut.Make(stocks, l)
		return []any{blend, pure, mix, brings, e1, e2, e3}
	}
	for range 100 {
		r, other := d.run(3, 5, 100), d.run(3, 5, 100)
		o, p := d.order(r, 40), d.order(other, 40)
		stocks, l := d.recipes(4, 5)
		less, k := d.recipes(4, 5)
		first := results(r, o, stocks, l)
		results(other, p, less, k)
		if again := results(r, o, stocks, l); !reflect.DeepEqual(first, again) {
			t.Fatalf("%v, and then %v", first, again)
		}
	}
}

// R3

func TestNilAndEmpty(t *testing.T) {
	for _, empty := range []bool{false, true} {
		list, rows, draws, parts, l := []int(nil), [][]int(nil), []api.CutDraw(nil), []api.Span(nil), []api.CutRecipe(nil)
		if empty {
			list, rows, draws, parts, l = []int{}, [][]int{}, []api.CutDraw{}, []api.Span{}, []api.CutRecipe{}
		}
		r := api.CutRun{Parts: []api.Span{span(5, 9)}, Draws: draws}
		if got, e := cut.Follow(r, api.CutTruth{Parts: []int{6}, Shares: rows}); !same(got, [][]int{{6}}) || e != api.OK {
			t.Errorf("no draws: %v, %d", got, e)
		}
		if s, e := cut.Grams(r, list); s != span(0, 0) || e != api.OK {
			t.Errorf("the grams of nothing: %v, %d", s, e)
		}
		if s, e := cut.Amount(r, list, 0); s != span(0, 0) || e != api.OK {
			t.Errorf("the amount of nothing: %v, %d", s, e)
		}
		if _, e := cut.Pure(r, list, 0); e != api.ErrNone {
			t.Errorf("the purity of nothing: %d", e)
		}
		if is, e := cut.Fulfils(r, api.CutOrder{Pure: 1000}, list); !is || e != api.OK {
			t.Errorf("nothing: %v, %d", is, e)
		}
		q := ask()
		q.t = api.CutTruth{Parts: list, Shares: rows}
		expect(t, q, api.ErrCutTruth, "Follow")
		q.mix = list
		expect(t, q, api.ErrRange, "Brings")
		q.r, q.stocks = api.CutRun{Parts: parts, Draws: draws}, list
		expect(t, q, api.ErrCutRun, names[:8]...)
		expect(t, q, api.ErrCutRecipe, names[8:]...)
		q = ask()
		q.l = l
		expect(t, q, api.ErrCutRecipe, names[8:]...)
	}
}

// P1

func TestGreatestRunsAndRecipes(t *testing.T) {
	const many = 100000000
	whole := slices.Repeat([]api.Span{span(0, many)}, 5)
	r := api.CutRun{Parts: whole, Draws: slices.Repeat([]api.CutDraw{draw(0, slices.Repeat([]api.Span{span(0, 1000)}, 5)...)}, 8)}
	for set := range 1 << 9 {
		var products []int
		for product := range 9 {
			if set>>product&1 == 1 {
				products = append(products, product)
			}
		}
		want := span(0, 0)
		if set > 0 {
			want = span(0, 5*many)
		}
		if s, e := cut.Grams(r, products); s != want || e != api.OK {
			t.Fatalf("%v: %v, %d", products, s, e)
		}
	}
	if l, e := cut.Blend(r, api.CutOrder{Part: 4, Grams: 1000000000, Pure: 1000}); len(l) != 0 || e != api.ErrNone {
		t.Errorf("%v, %d", l, e)
	}
	var l []api.CutRecipe
	for i := range 4 { // no two mixes leave the same
		needs := make([]int, 5)
		needs[i] = many / 20
		needs[4] = many/80 - i
		l = append(l, recipe(100000-i, 20, needs...))
	}
	if mix, n, e := cut.Make(slices.Repeat([]int{many}, 5), l); !slices.Equal(mix, []int{20, 20, 20, 20}) || n != 20*(400000-6) || e != api.OK {
		t.Errorf("%v, %d, %d", mix, n, e)
	}
}

func TestAnyRun(t *testing.T) {
	d := &dice{13}
	for range 1000 {
		r := d.run(d.from(1, 5), d.upTo(8), 100000000)
		stocks, l := d.recipes(d.from(1, 4), 20)
		q := question{r, d.truth(r), d.products(r), d.upTo(len(r.Parts) - 1), d.order(r, 1000000000), stocks, l, nil}
		expect(t, q, api.OK, "Check", "Follow", "Amount", "Grams", "Fulfils", "Lost", "CheckRecipes", "Make")
		if answers := q.answers(); slices.Contains(answers, -1) {
			t.Fatalf("%+v: %v", q, answers)
		}
	}
}
