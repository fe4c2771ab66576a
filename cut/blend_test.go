package cut_test

import (
	"slices"
	"testing"

	"pinaster/api"
	"pinaster/cut"
)

// equal is a run whose draws, of some kinds, take nothing.
func equal(kinds ...int) api.CutRun {
	r := bare(span(80, 80), span(20, 20))
	for _, kind := range kinds {
		r.Draws = append(r.Draws, draw(kind, span(0, 0), span(0, 0)))
	}
	return r
}

// twins is a run whose first four products are alike: 100 grams of the part 0, and nothing else.
func twins() api.CutRun {
	return api.CutRun{Parts: []api.Span{span(500, 500), span(90, 90)}, Draws: []api.CutDraw{
		draw(0, span(200, 200), span(0, 0)), draw(0, span(250, 250), span(0, 0)), draw(0, span(334, 334), span(0, 0)), draw(0, span(500, 500), span(0, 0)),
	}}
}

// P6.5

func TestFulfils(t *testing.T) {
	lost := small()
	lost.Draws[1].Kind = api.CutLost
	five := bare(slices.Repeat([]api.Span{span(100000000, 100000000)}, 5)...)
	for i, x := range []struct {
		r        api.CutRun
		o        api.CutOrder
		products []int
		want     bool
	}{
		{small(), api.CutOrder{Grams: 700, Pure: 870}, []int{1}, true}, {small(), api.CutOrder{Grams: 700, Pure: 870}, []int{1, 2}, false},
		{small(), api.CutOrder{Grams: 735, Pure: 872}, []int{1}, true}, {small(), api.CutOrder{Grams: 736, Pure: 872}, []int{1}, false}, {small(), api.CutOrder{Grams: 735, Pure: 873}, []int{1}, false},
		{small(), api.CutOrder{}, nil, true}, {small(), api.CutOrder{Part: 1, Pure: 1000}, nil, true}, {small(), api.CutOrder{Grams: 1}, nil, false},
		{small(), api.CutOrder{}, []int{0}, false}, {small(), api.CutOrder{}, []int{0, 1, 2, 3}, false}, {small(), api.CutOrder{}, []int{1, 2, 3}, true},
		{lost, api.CutOrder{Grams: 700, Pure: 870}, []int{1}, false}, {lost, api.CutOrder{}, []int{2, 3}, true}, {lost, api.CutOrder{}, []int{1, 2}, false},
		{equal(0, 0), api.CutOrder{Pure: 1000}, []int{0, 1}, true}, {equal(0, 0), api.CutOrder{Pure: 800, Grams: 100}, []int{0, 2}, true}, {equal(0, 0), api.CutOrder{Pure: 801}, []int{0, 2}, false},
		{equal(0, 0), api.CutOrder{Part: 1, Pure: 200, Grams: 100}, []int{2}, true}, {equal(0, 0), api.CutOrder{Part: 1, Pure: 201}, []int{2}, false}, {equal(0, 0), api.CutOrder{Grams: 101}, []int{2}, false},
		{bare(span(2, 2), span(1, 1)), api.CutOrder{Pure: 666}, []int{0}, true}, {bare(span(2, 2), span(1, 1)), api.CutOrder{Pure: 667}, []int{0}, false}, // 666.67 thousandths
		{bare(span(0, 9), span(0, 0)), api.CutOrder{Pure: 1000}, []int{0}, true}, {bare(span(0, 9), span(0, 1)), api.CutOrder{Pure: 1}, []int{0}, false}, {bare(span(0, 9), span(0, 1)), api.CutOrder{}, []int{0}, true},
		{five, api.CutOrder{Grams: 500000000, Pure: 200}, []int{0}, true}, {five, api.CutOrder{Grams: 500000001}, []int{0}, false}, {five, api.CutOrder{Part: 4, Pure: 201}, []int{0}, false},
	} {
		if is, e := cut.Fulfils(x.r, x.o, x.products); is != x.want || e != api.OK {
			t.Errorf("%d: %v, %d, want %v", i, is, e, x.want)
		}
	}
}

func TestBlend(t *testing.T) {
	for i, x := range []struct {
		r    api.CutRun
		o    api.CutOrder
		want []int
		e    api.Errno
	}{
		{small(), api.CutOrder{Grams: 700, Pure: 870}, []int{1}, api.OK}, {small(), api.CutOrder{Grams: 1200, Pure: 600}, []int{1, 2, 3}, api.OK}, {small(), api.CutOrder{Grams: 1200, Pure: 700}, nil, api.ErrNone},
		{small(), api.CutOrder{}, nil, api.OK}, {small(), api.CutOrder{Part: 1, Pure: 1000}, nil, api.OK}, {small(), api.CutOrder{Grams: 1000000000}, nil, api.ErrNone},
		{small(), api.CutOrder{Grams: 1}, []int{1}, api.OK}, {small(), api.CutOrder{Part: 1, Grams: 1, Pure: 571}, []int{2}, api.OK}, {small(), api.CutOrder{Part: 1, Grams: 1, Pure: 572}, nil, api.ErrNone}, {small(), api.CutOrder{Grams: 1491}, nil, api.ErrNone},
		{twins(), api.CutOrder{Grams: 1, Pure: 1000}, []int{0}, api.OK}, {twins(), api.CutOrder{Grams: 101, Pure: 1000}, []int{0, 1}, api.OK}, {twins(), api.CutOrder{Grams: 300, Pure: 900}, []int{0, 1, 2}, api.OK},
		{twins(), api.CutOrder{Grams: 400, Pure: 1000}, []int{0, 1, 2, 3}, api.OK}, {twins(), api.CutOrder{Grams: 401, Pure: 1000}, nil, api.ErrNone}, {twins(), api.CutOrder{Grams: 290, Pure: 500}, []int{0, 4}, api.OK},
		{twins(), api.CutOrder{Grams: 190, Pure: 500}, []int{4}, api.OK}, {twins(), api.CutOrder{Grams: 390, Pure: 700}, []int{0, 1, 4}, api.OK}, {twins(), api.CutOrder{Grams: 590}, []int{0, 1, 2, 3, 4}, api.OK},
		{equal(1, 1, 0, 0, 1), api.CutOrder{Grams: 100, Pure: 800}, []int{5}, api.OK}, {bare(span(5, 9)), api.CutOrder{Grams: 5, Pure: 1000}, []int{0}, api.OK}, {bare(span(5, 9)), api.CutOrder{Grams: 6}, nil, api.ErrNone},
	} {
		if l, e := cut.Blend(x.r, x.o); !slices.Equal(l, x.want) || e != x.e {
			t.Errorf("%d: %v, %d, want %v, %d", i, l, e, x.want, x.e)
		}
	}
}

// oracle reports whether products fulfil an order, by trying all that can be so.
func oracle(r api.CutRun, o api.CutOrder, products []int) bool {
	for _, product := range products {
		if !isKept(r, product) {
			return false
		}
	}
	some, others := charges(r, products, o.Part)
	for _, n := range some {
		for _, m := range others {
			if n+m < o.Grams || 1000*n < o.Pure*(n+m) {
				return false
			}
		}
	}
	return true
}

// choices are all lists of products, in the order in which Blend prefers them.
func choices(r api.CutRun) [][]int {
	var all [][]int
	for set := range 2 << len(r.Draws) {
		var list []int
		for product := range len(r.Draws) + 1 {
			if set>>product&1 == 1 {
				list = append(list, product)
			}
		}
		all = append(all, list)
	}
	slices.SortFunc(all, func(a, b []int) int {
		if len(a) != len(b) {
			return len(a) - len(b)
		}
		return slices.Compare(a, b)
	})
	return all
}

// P6.5, P6.10

func TestOrdersAgainstAllTruthsAndBlends(t *testing.T) {
	d := &dice{8}
	lengths := map[int]int{}
	for range 400 {
		r := d.run(d.from(1, 3), d.upTo(4), 16)
		o := d.order(r, 24)
		if d.upTo(2) == 0 {
			o.Pure = 0
		}
		var want []int
		wrong := api.ErrNone
		for _, products := range choices(r) {
			is, e := cut.Fulfils(r, o, products)
			if is != oracle(r, o, products) || e != api.OK {
				t.Fatalf("%+v, %+v, %v: %v, %d", r, o, products, is, e)
			}
			if is && wrong != api.OK {
				want, wrong = products, api.OK
			}
		}
		if l, e := cut.Blend(r, o); !slices.Equal(l, want) || e != wrong {
			t.Fatalf("%+v, %+v: %v, %d, want %v, %d", r, o, l, e, want, wrong)
		}
		if wrong != api.OK {
			lengths[-1]++
		} else {
			lengths[len(want)]++
		}
	}
	for many := -1; many <= 3; many++ {
		if lengths[many] < 5 {
			t.Errorf("only %d blends have the length %d", lengths[many], many)
		}
	}
}

// P6.10

func TestNarrowerSpansStillFulfil(t *testing.T) {
	d := &dice{9}
	times := 0
	for range 4000 {
		r := d.run(d.from(1, 5), d.upTo(8), 3000)
		o, products := d.order(r, 2000), d.products(r)
		o.Pure /= d.from(1, 4)
		if is, _ := cut.Fulfils(r, o, products); !is {
			continue
		}
		times++
		n := d.narrower(r)
		if is, e := cut.Fulfils(n, o, products); !is || e != api.OK {
			t.Fatalf("%+v, %+v, %+v, %v: %v, %d", r, n, o, products, is, e)
		}
		before, _ := cut.Blend(r, o)
		if after, e := cut.Blend(n, o); len(before) > len(products) || len(after) > len(before) || e != api.OK {
			t.Fatalf("%+v, %+v, %+v, %v: %v, then %v, %d", r, n, o, products, before, after, e)
		}
		x := d.truth(r)
		l, _ := cut.Follow(r, x)
		some, grams := 0, 0
		for _, product := range products {
			some += l[product][o.Part]
			for _, n := range l[product] {
				grams += n
			}
		}
		if grams < o.Grams || 1000*some < o.Pure*grams {
			t.Fatalf("%+v, %+v, %v, %+v: %d of %d", r, o, products, x, some, grams)
		}
	}
	if times < 100 {
		t.Errorf("only %d orders are fulfilled", times)
	}
}
