package cut_test

import (
	"math"
	"slices"
	"testing"

	"pinaster/api"
	"pinaster/cut"
)

func same(a, b [][]int) bool { return slices.EqualFunc(a, b, slices.Equal) }

// P6.2

func TestFollow(t *testing.T) {
	all := api.CutRun{Parts: []api.Span{span(0, 9), span(0, 1000)}, Draws: []api.CutDraw{draw(1, span(0, 1000), span(0, 1000)), draw(0, span(0, 1000), span(0, 1000))}}
	for i, x := range []struct {
		r    api.CutRun
		t    api.CutTruth
		want [][]int
	}{
		{small(), truth(), [][]int{{20, 5}, {686, 49}, {147, 267}, {147, 179}}},
		{small(), api.CutTruth{Parts: []int{1200, 500}, Shares: [][]int{{20, 0}, {800, 200}, {500, 900}}}, [][]int{{24, 0}, {940, 100}, {118, 360}, {118, 40}}},
		{all, api.CutTruth{Parts: []int{9, 999}, Shares: [][]int{{1000, 999}, {1000, 1}}}, [][]int{{9, 998}, {0, 0}, {0, 1}}},
		{all, api.CutTruth{Parts: []int{9, 1000}, Shares: [][]int{{111, 0}, {112, 1000}}}, [][]int{{0, 0}, {1, 1000}, {8, 0}}},
		{all, api.CutTruth{Parts: []int{0, 0}, Shares: [][]int{{500, 500}, {1000, 1}}}, [][]int{{0, 0}, {0, 0}, {0, 0}}},
		{all, api.CutTruth{Parts: []int{9, 0}, Shares: [][]int{{1000, 500}, {1000, 1}}}, [][]int{{9, 0}, {0, 0}, {0, 0}}},
		{bare(span(3, 9)), api.CutTruth{Parts: []int{9}}, [][]int{{9}}},
		{bare(span(0, 0), span(1, 1)), api.CutTruth{Parts: []int{0, 1}}, [][]int{{0, 1}}},
	} {
		if l, e := cut.Follow(x.r, x.t); !same(l, x.want) || e != api.OK {
			t.Errorf("%d: %v, %d, want %v", i, l, e, x.want)
		}
	}
}

func TestWrongTruths(t *testing.T) {
	var bad []api.CutTruth
	with := func(change func(x *api.CutTruth)) {
		x := truth()
		change(&x)
		bad = append(bad, x)
	}
	for _, n := range append(slices.Clone(odd), 999, 1201) {
		with(func(x *api.CutTruth) { x.Parts[0] = n })
		with(func(x *api.CutTruth) { x.Parts[1] = n })
		for i := range small().Draws {
			with(func(x *api.CutTruth) { x.Shares[i][0] = n })
			with(func(x *api.CutTruth) { x.Shares[i][1] = n })
		}
	}
	for _, n := range []int{9, 21} { // the spans of the draw 0 and the part 0
		with(func(x *api.CutTruth) { x.Shares[0][0] = n })
	}
	for _, n := range []int{499, 501} {
		with(func(x *api.CutTruth) { x.Parts[1] = n })
		with(func(x *api.CutTruth) { x.Shares[2][0] = n })
	}
	for _, n := range []int{599, 901} {
		with(func(x *api.CutTruth) { x.Shares[2][1] = n })
	}
	with(func(x *api.CutTruth) { x.Parts = nil })
	with(func(x *api.CutTruth) { x.Parts = x.Parts[:1] })
	with(func(x *api.CutTruth) { x.Parts = append(x.Parts, 0) })
	with(func(x *api.CutTruth) { x.Shares = nil })
	with(func(x *api.CutTruth) { x.Shares = x.Shares[:2] })
	with(func(x *api.CutTruth) { x.Shares = append(x.Shares, []int{0, 0}) })
	with(func(x *api.CutTruth) { x.Shares = append(x.Shares, nil) })
	for i := range small().Draws {
		with(func(x *api.CutTruth) { x.Shares[i] = nil })
		with(func(x *api.CutTruth) { x.Shares[i] = x.Shares[i][:1] })
		with(func(x *api.CutTruth) { x.Shares[i] = append(x.Shares[i], 0) })
	}
	for _, x := range bad {
		q := ask()
		q.t = x
		expect(t, q, api.ErrCutTruth, "Follow")
	}
}

func TestEndsOfTruths(t *testing.T) {
	for i := range 256 {
		x, bit := api.CutTruth{}, 0
		end := func(s api.Span) int {
			bit++
			if i>>(bit-1)&1 == 1 {
				return s.High
			}
			return s.Low
		}
		for _, s := range small().Parts {
			x.Parts = append(x.Parts, end(s))
		}
		for _, y := range small().Draws {
			x.Shares = append(x.Shares, []int{end(y.Shares[0]), end(y.Shares[1])})
		}
		q := ask()
		q.t = x
		expect(t, q, api.OK, "Follow")
	}
}

// P6.8

func TestNothingIsLost(t *testing.T) {
	d := &dice{2}
	for i := range 3000 {
		r := d.run(d.from(1, 5), d.upTo(8), []int{20, 3000, 100000000}[i%3])
		x := d.truth(r)
		l, e := cut.Follow(r, x)
		if e != api.OK || len(l) != len(r.Draws)+1 {
			t.Fatalf("%+v, %+v: %v, %d", r, x, l, e)
		}
		lost, e := cut.Lost(r)
		grams := 0
		for part, first := range x.Parts {
			left := first
			for k, shares := range x.Shares {
				if taken := int(math.Floor(float64(left*shares[part]) / 1000)); l[k][part] != taken {
					t.Fatalf("%+v, %+v: %v, the draw %d, the part %d: want %d", r, x, l, k, part, taken)
				}
				left -= l[k][part]
				if !isKept(r, k) {
					grams += l[k][part]
				}
			}
			if left != l[len(r.Draws)][part] || left < 0 {
				t.Fatalf("%+v, %+v: %v, the part %d: %d are left", r, x, l, part, left)
			}
		}
		if e != api.OK || grams < lost.Low || grams > lost.High {
			t.Fatalf("%+v, %+v: %d are lost, not in %v, %d", r, x, grams, lost, e)
		}
	}
}
