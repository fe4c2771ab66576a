package cut_test

import (
	"slices"
	"testing"

	"pinaster/api"
	"pinaster/cut"
)

// P6.6

func TestBrings(t *testing.T) {
	for i, x := range []struct {
		mix  []int
		want int
	}{{[]int{0, 0}, 0}, {[]int{2, 1}, 170}, {[]int{1, 2}, 190}, {[]int{3, 0}, 150}, {[]int{0, 2}, 140}, {[]int{1, 0}, 50}} {
		if n, e := cut.Brings(stocks(), recipes(), x.mix); n != x.want || e != api.OK {
			t.Errorf("%d: %d, %d, want %d", i, n, e, x.want)
		}
	}
	great := []api.CutRecipe{recipe(100000, 20, 100000000), recipe(100000, 20, 0), recipe(100000, 20, 5000000), recipe(1, 20, 0)}
	for i, x := range []struct {
		mix  []int
		want int
		e    api.Errno
	}{
		{[]int{1, 20, 0, 20}, 2100020, api.OK}, {[]int{0, 20, 20, 20}, 4000020, api.OK}, {[]int{1, 0, 1, 0}, 0, api.ErrRange}, {[]int{2, 0, 0, 0}, 0, api.ErrRange}, {[]int{20, 20, 20, 20}, 0, api.ErrRange}, {[]int{0, 21, 0, 0}, 0, api.ErrRange},
	} {
		if n, e := cut.Brings([]int{100000000}, great, x.mix); n != x.want || e != x.e {
			t.Errorf("great mix %d: %d, %d, want %d, %d", i, n, e, x.want, x.e)
		}
	}
}

func TestMake(t *testing.T) {
	free := []api.CutRecipe{recipe(3, 20, 0), recipe(0, 20, 1)}
	alike := []api.CutRecipe{recipe(5, 3, 2), recipe(5, 3, 2), recipe(0, 3, 0), recipe(10, 3, 4)}
	full := []api.CutRecipe{recipe(100000, 20, 1, 0, 0, 0, 0), recipe(100000, 20, 0, 1, 0, 0, 0), recipe(100000, 20, 0, 0, 1, 0, 0), recipe(100000, 20, 0, 0, 0, 1, 1)}
	for i, x := range []struct {
		stocks []int
		l      []api.CutRecipe
		want   []int
		brings int
	}{
		{stocks(), recipes(), []int{1, 2}, 190}, {[]int{100, 50}, recipes(), []int{2, 1}, 170}, {[]int{0, 0}, recipes(), []int{0, 0}, 0}, {[]int{1000, 1000}, recipes(), []int{5, 5}, 600},
		{[]int{29, 1000}, recipes(), []int{0, 1}, 70}, {[]int{30, 24}, recipes(), []int{1, 0}, 50}, {[]int{19, 1000}, recipes(), []int{0, 0}, 0},
		{[]int{5}, free, []int{20, 0}, 60}, {[]int{9}, free[1:], []int{0}, 0}, {[]int{9}, []api.CutRecipe{recipe(7, 0, 0)}, []int{0}, 0},
		{[]int{3}, alike, []int{0, 1, 0, 0}, 5}, {[]int{4}, alike, []int{0, 0, 0, 1}, 10}, {[]int{12}, alike, []int{0, 0, 0, 3}, 30}, {[]int{14}, alike, []int{0, 1, 0, 3}, 35}, {[]int{20}, alike, []int{1, 3, 0, 3}, 50}, {[]int{99}, alike, []int{3, 3, 0, 3}, 60},
		{slices.Repeat([]int{100000000}, 5), full, []int{20, 20, 20, 20}, 8000000}, {[]int{7, 0, 20, 9, 3}, full, []int{7, 0, 20, 3}, 3000000},
	} {
		if mix, n, e := cut.Make(x.stocks, x.l); !slices.Equal(mix, x.want) || n != x.brings || e != api.OK {
			t.Errorf("%d: %v, %d, %d, want %v, %d", i, mix, n, e, x.want, x.brings)
		}
	}
}

// mixes are all lists of numbers that recipes allow, in their order, mixes or not.
func mixes(l []api.CutRecipe) [][]int {
	all := [][]int{nil}
	for _, x := range l {
		var longer [][]int
		for _, list := range all {
			for n := range x.Most + 1 {
				longer = append(longer, append(slices.Clone(list), n))
			}
		}
		all = longer
	}
	return all
}

// P6.6, P6.11

func TestRecipesAgainstAllMixes(t *testing.T) {
	d := &dice{10}
	several := 0
	for range 400 {
		stocks, l := d.recipes(d.from(1, 4), 5)
		var want []int
		most, times := -1, 0
		for _, mix := range mixes(l) {
			sum, wrong := 0, api.OK
			for i, n := range mix {
				sum += n * l[i].Price
			}
			for k, stock := range stocks {
				for i, n := range mix {
					stock -= n * l[i].Needs[k]
				}
				if stock < 0 {
					sum, wrong = 0, api.ErrRange
					break
				}
			}
			if n, e := cut.Brings(stocks, l, mix); n != sum || e != wrong {
				t.Fatalf("%v, %+v, %v: %d, %d, want %d, %d", stocks, l, mix, n, e, sum, wrong)
			}
			switch {
			case wrong == api.OK && sum > most:
				want, most, times = mix, sum, 1
			case wrong == api.OK && sum == most:
				times++
			}
		}
		if times > 1 && most > 0 {
			several++
		}
		if mix, n, e := cut.Make(stocks, l); !slices.Equal(mix, want) || n != most || e != api.OK {
			t.Fatalf("%v, %+v: %v, %d, %d, want %v, %d", stocks, l, mix, n, e, want, most)
		}
	}
	if several < 50 {
		t.Errorf("only %d times several mixes bring most", several)
	}
}

// P6.11

func TestMoreBringsNotLess(t *testing.T) {
	d := &dice{11}
	more := 0
	for range 500 {
		stocks, l := d.recipes(d.from(1, 4), 8)
		_, before, _ := cut.Make(stocks, l)
		for i := range stocks {
			stocks[i] += d.upTo(1) * d.upTo(30)
		}
		for i := range l {
			l[i].Price += d.upTo(1) * d.upTo(2)
			l[i].Most += d.upTo(1)
		}
		mix, after, e := cut.Make(stocks, l)
		if after < before || e != api.OK {
			t.Fatalf("%v, %+v: %d, %d, was %d", stocks, l, after, e, before)
		}
		if n, e := cut.Brings(stocks, l, mix); n != after || e != api.OK {
			t.Fatalf("%v, %+v, %v: %d, %d, want %d", stocks, l, mix, n, e, after)
		}
		if after > before {
			more++
		}
	}
	if more < 100 {
		t.Errorf("only %d times more is brought", more)
	}
}
