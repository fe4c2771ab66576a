package cut_test

import (
	"slices"
	"testing"

	"pinaster/api"
	"pinaster/cut"
)

// P6.3

func TestAmount(t *testing.T) {
	for i, x := range []struct {
		products []int
		part     int
		want     api.Span
	}{
		{[]int{1}, 0, span(686, 950)}, {[]int{1, 2}, 1, span(316, 460)}, {[]int{0}, 0, span(10, 24)}, {[]int{0}, 1, span(0, 5)},
		{[]int{2}, 0, span(98, 178)}, {[]int{3}, 0, span(98, 179)}, {[]int{2, 3}, 0, span(196, 357)}, {[]int{0, 3}, 1, span(40, 184)},
		{[]int{0, 1, 2, 3}, 0, span(1000, 1200)}, {[]int{0, 1, 2, 3}, 1, span(500, 500)}, {[]int{1, 2, 3}, 1, span(495, 500)}, {nil, 0, span(0, 0)},
	} {
		if s, e := cut.Amount(small(), x.products, x.part); s != x.want || e != api.OK {
			t.Errorf("%d: %v, %d, want %v", i, s, e, x.want)
		}
	}
}

func TestGramsAndLost(t *testing.T) {
	for i, x := range []struct {
		products []int
		want     api.Span
	}{{[]int{1}, span(735, 1050)}, {[]int{1, 2}, span(1149, 1529)}, {[]int{0}, span(10, 29)}, {[]int{0, 1, 2, 3}, span(1500, 1700)}, {nil, span(0, 0)}} {
		if s, e := cut.Grams(small(), x.products); s != x.want || e != api.OK {
			t.Errorf("%d: %v, %d, want %v", i, s, e, x.want)
		}
	}
	two := small()
	two.Draws[2].Kind = api.CutLost
	all := small()
	all.Draws[1].Kind, all.Draws[2].Kind = api.CutLost, api.CutLost
	none := small()
	none.Draws[0].Kind = api.CutKept
	for i, x := range []struct {
		r    api.CutRun
		want api.Span
	}{{small(), span(10, 29)}, {two, span(349, 606)}, {all, span(1171, 1542)}, {none, span(0, 0)}, {bare(span(5, 9)), span(0, 0)}} {
		if s, e := cut.Lost(x.r); s != x.want || e != api.OK {
			t.Errorf("%d: %v, %d, want %v", i, s, e, x.want)
		}
	}
}

// P6.3, P6.9

func TestAmountsAgainstAllTruths(t *testing.T) {
	d := &dice{3}
	between := 0
	for range 1500 {
		r := d.run(d.from(1, 2), d.upTo(6), []int{3, 12, 40}[d.upTo(2)])
		products := d.products(r)
		grams := span(0, 0)
		for part := range r.Parts {
			all := amountsOf(r, products, part)
			want := span(all[0], all[len(all)-1])
			if s, e := cut.Amount(r, products, part); s != want || e != api.OK {
				t.Fatalf("%+v, %v, the part %d: %v, %d, want %v", r, products, part, s, e, want)
			}
			grams = span(grams.Low+want.Low, grams.High+want.High)
			if len(products) > 0 && len(products) <= len(r.Draws) && want.High > want.Low+2 {
				between++
			}
		}
		if s, e := cut.Grams(r, products); s != grams || e != api.OK {
			t.Fatalf("%+v, %v: %v, %d, want %v", r, products, s, e, grams)
		}
	}
	if between < 300 {
		t.Errorf("only %d spans are wide", between)
	}
}

func TestLostAgainstAllTruths(t *testing.T) {
	d := &dice{4}
	for range 500 {
		r := d.run(d.from(1, 3), d.upTo(6), 12)
		var products []int
		for product := range len(r.Draws) + 1 {
			if !isKept(r, product) {
				products = append(products, product)
			}
		}
		want := span(0, 0)
		for part := range r.Parts {
			all := amountsOf(r, products, part)
			want = span(want.Low+all[0], want.High+all[len(all)-1])
		}
		if s, e := cut.Lost(r); s != want || e != api.OK {
			t.Fatalf("%+v: %v, %d, want %v", r, s, e, want)
		}
	}
}

// ends are all truths whose numbers are the ends of spans, of a run with one part.
func ends(r api.CutRun) []api.CutTruth {
	var all []api.CutTruth
	for i := range 2 << len(r.Draws) {
		end := func(s api.Span, bit int) int { return []int{s.Low, s.High}[i>>bit&1] }
		x := api.CutTruth{Parts: []int{end(r.Parts[0], 0)}}
		for k, y := range r.Draws {
			x.Shares = append(x.Shares, []int{end(y.Shares[0], k+1)})
		}
		all = append(all, x)
	}
	return all
}

func TestGreatAmountsAgainstEndsAndThrownTruths(t *testing.T) {
	d := &dice{5}
	for range 120 {
		r := d.run(1, d.from(1, 8), 100000000)
		products := d.products(r)
		truths := ends(r)
		best := len(truths)
		for range 200 {
			truths = append(truths, d.truth(r))
		}
		s, e := cut.Amount(r, products, 0)
		low, high := false, false
		for i, x := range truths {
			l, _ := cut.Follow(r, x)
			n := 0
			for _, product := range products {
				n += l[product][0]
			}
			if e != api.OK || n < s.Low || n > s.High {
				t.Fatalf("%+v, %v, %+v: %d is not in %v, %d", r, products, x, n, s, e)
			}
			low, high = low || i < best && n == s.Low, high || i < best && n == s.High
		}
		if !low || !high {
			t.Fatalf("%+v, %v: no truth is at the ends of %v", r, products, s)
		}
	}
}

// P6.4

func TestPure(t *testing.T) {
	alone := bare(span(0, 9), span(0, 0))
	never := api.CutRun{Parts: []api.Span{span(0, 100)}, Draws: []api.CutDraw{draw(0, span(0, 9)), draw(0, span(0, 10))}}
	empty := bare(span(0, 0), span(0, 0))
	for i, x := range []struct {
		r        api.CutRun
		products []int
		part     int
		want     api.Span
		e        api.Errno
	}{
		{small(), []int{1}, 0, span(872, 950), api.OK}, {small(), []int{1}, 1, span(49, 127), api.OK}, {small(), nil, 0, span(0, 0), api.ErrNone}, {small(), []int{0}, 1, span(0, 333), api.OK},
		{small(), []int{0}, 0, span(666, 1000), api.OK}, {small(), []int{0, 1, 2, 3}, 0, span(666, 705), api.OK}, {small(), []int{0, 1, 2, 3}, 1, span(294, 333), api.OK},
		{alone, []int{0}, 0, span(1000, 1000), api.OK}, {alone, []int{0}, 1, span(0, 0), api.OK},
		{bare(span(0, 0), span(0, 9)), []int{0}, 0, span(0, 0), api.OK}, {bare(span(0, 0), span(0, 9)), []int{0}, 1, span(1000, 1000), api.OK},
		{bare(span(0, 0), span(4, 9)), []int{0}, 1, span(1000, 1000), api.OK}, {bare(span(0, 0), span(4, 9)), []int{0}, 0, span(0, 0), api.OK},
		{bare(span(0, 9), span(0, 1)), []int{0}, 0, span(0, 1000), api.OK}, {bare(span(0, 9), span(1, 1)), []int{0}, 0, span(0, 900), api.OK}, {bare(span(9, 9), span(0, 1)), []int{0}, 0, span(900, 1000), api.OK},
		{bare(span(1, 2), span(2, 4), span(0, 0)), []int{0}, 0, span(200, 500), api.OK}, {bare(span(1, 1), span(2, 2)), []int{0}, 1, span(666, 666), api.OK},
		{bare(span(7, 7)), []int{0}, 0, span(1000, 1000), api.OK}, {bare(span(0, 7)), []int{0}, 0, span(1000, 1000), api.OK},
		{empty, []int{0}, 0, span(0, 0), api.ErrNone}, {empty, []int{0}, 1, span(0, 0), api.ErrNone}, {empty, nil, 0, span(0, 0), api.ErrNone}, {bare(span(5, 5)), nil, 0, span(0, 0), api.ErrNone},
		{never, []int{0}, 0, span(0, 0), api.ErrNone}, {never, []int{1}, 0, span(1000, 1000), api.OK}, {never, []int{0, 1}, 0, span(1000, 1000), api.OK}, {never, []int{0, 2}, 0, span(1000, 1000), api.OK},
		{bare(span(100000000, 100000000), span(0, 100000000), span(0, 100000000), span(0, 100000000), span(0, 100000000)), []int{0}, 0, span(200, 1000), api.OK},
	} {
		if s, e := cut.Pure(x.r, x.products, x.part); s != x.want || e != x.e {
			t.Errorf("%d: %v, %d, want %v, %d", i, s, e, x.want, x.e)
		}
	}
}

// P6.4, P6.9

func TestPureAgainstAllTruths(t *testing.T) {
	d := &dice{6}
	none, all, inner := 0, 0, 0
	for range 1500 {
		r := d.run(d.from(1, 4), d.upTo(4), []int{1, 3, 12}[d.upTo(2)])
		products, part := d.products(r), d.upTo(len(r.Parts)-1)
		var list []int
		some, others := charges(r, products, part)
		for _, n := range some {
			for _, m := range others {
				if n+m > 0 {
					list = append(list, 1000*n/(n+m))
				}
			}
		}
		slices.Sort(list)
		want, wrong := span(0, 0), api.ErrNone
		if len(list) > 0 {
			want, wrong = span(list[0], list[len(list)-1]), api.OK
		}
		if s, e := cut.Pure(r, products, part); s != want || e != wrong {
			t.Fatalf("%+v, %v, the part %d: %v, %d, want %v, %d", r, products, part, s, e, want, wrong)
		}
		switch {
		case wrong == api.ErrNone:
			none++
		case want.Low == 1000 || want.High == 0:
			all++
		case want.Low > 0 && want.High < 1000:
			inner++
		}
	}
	if none < 50 || all < 50 || inner < 50 {
		t.Errorf("the cases came only %d, %d and %d times", none, all, inner)
	}
}

// P6.9

func TestThrownTruthsLieWithin(t *testing.T) {
	d := &dice{7}
	for i := range 3000 {
		r := d.run(d.from(1, 5), d.upTo(8), []int{20, 3000, 100000000}[i%3])
		products, x := d.products(r), d.truth(r)
		l, _ := cut.Follow(r, x)
		has, grams := make([]int, len(r.Parts)), 0
		for _, product := range products {
			for part, n := range l[product] {
				has[part] += n
				grams += n
			}
		}
		if s, e := cut.Grams(r, products); e != api.OK || grams < s.Low || grams > s.High {
			t.Fatalf("%+v, %v, %+v: %d grams, not in %v, %d", r, products, x, grams, s, e)
		}
		for part, n := range has {
			if s, e := cut.Amount(r, products, part); e != api.OK || n < s.Low || n > s.High {
				t.Fatalf("%+v, %v, %+v: %d of the part %d, not in %v, %d", r, products, x, n, part, s, e)
			}
			if grams == 0 {
				continue
			}
			if s, e := cut.Pure(r, products, part); e != api.OK || 1000*n/grams < s.Low || 1000*n/grams > s.High {
				t.Fatalf("%+v, %v, %+v: %d of %d is the part %d, not in %v, %d", r, products, x, n, grams, part, s, e)
			}
		}
	}
}
