package rights_test

import (
	"slices"
	"testing"

	"pinaster/api"
	"pinaster/rights"
)

// P9.4

func TestPlace(t *testing.T) {
	apart := uses()
	apart[1].Plots, apart[1].Every = 4, 2
	tied := slices.Clone(apart)
	tied[3].Offset, tied[3].Fixed = 0, true
	stuck := slices.Clone(tied)
	stuck[1].Offset, stuck[1].Fixed = 0, true
	year := func(use, every int) api.Right { return during(use, 0, 300, every, every-1) }
	all := resting(0, 15, 15, 15, 15)
	for i, x := range []struct {
		r    api.RightsRule
		l    []api.Right
		want []int
		e    api.Errno
	}{
		{rule(), uses(), nil, api.ErrNone}, {rule(), apart, []int{0, 0, 0, 1}, api.OK}, {rule(), tied, []int{0, 1, 0, 0}, api.OK}, {rule(), stuck, nil, api.ErrNone},
		{rule(), nil, nil, api.OK}, {rule(), []api.Right{cow()}, []int{0}, api.OK}, {rule(), []api.Right{fixed(cow())}, []int{1}, api.OK}, {rule(), []api.Right{fixed(tap())}, []int{0}, api.OK},
		{rule(), times(year(0, 3), year(3, 3), year(0, 3)), []int{0, 1, 0}, api.OK}, {rule(), times(year(0, 3), year(3, 3), fixed(year(0, 3))), []int{0, 1, 2}, api.OK}, {rule(), times(year(0, 2), fixed(year(3, 2))), []int{0, 1}, api.OK}, {rule(), times(fixed(year(3, 2)), fixed(year(0, 2))), nil, api.ErrNone},
		{all, times(year(1, 6), year(2, 6), year(1, 6), year(2, 6), year(1, 6), year(2, 6)), []int{0, 1, 2, 3, 4, 5}, api.OK}, {all, times(year(1, 6), year(2, 6), year(1, 6), year(2, 6), year(1, 6), year(2, 6), year(0, 6)), nil, api.ErrNone},
		{all, times(year(1, 2), year(2, 4), year(3, 4)), []int{0, 1, 3}, api.OK}, {all, times(year(3, 4), year(2, 4), year(1, 2)), []int{0, 2, 1}, api.OK}, {all, times(year(1, 2), year(2, 3)), nil, api.ErrNone}, {all, times(year(1, 6), year(2, 3), year(0, 2)), nil, api.ErrNone}, {all, times(year(1, 6), year(2, 3), year(0, 6)), []int{0, 1, 2}, api.OK},
		{all, times(during(1, 0, 359, 1, 0), during(2, 5, 5, 6, 0)), nil, api.ErrNone}, {resting(0, 0, 0, 0, 0), uses(), []int{0, 0, 0, 0}, api.OK},
		{resting(60, 15, 15, 15, 15), times(during(0, 300, 359, 2, 0), during(1, 0, 20, 2, 0)), []int{0, 0}, api.OK}, {resting(60, 15, 15, 15, 15), times(during(0, 300, 359, 2, 0), fixed(during(1, 0, 20, 2, 1))), []int{1, 1}, api.OK}, // rest over the end of a year
		{resting(60, 15, 15, 15, 15), times(fixed(during(0, 300, 359, 3, 2)), during(1, 0, 20, 3, 0)), []int{2, 1}, api.OK}, // the days before the day 0 do not count, but those before the year 3 do
	} {
		if l, e := rights.Place(x.r, x.l); !slices.Equal(l, x.want) || e != x.e {
			t.Errorf("%d: %v, %d, want %v, %d", i, l, e, x.want, x.e)
		}
	}
}

func TestFirstPlaces(t *testing.T) {
	d := &dice{5}
	some, later, none := 0, 0, 0
	for range 500 {
		r, l := d.rule(d.from(1, 10)), d.rights(d.upTo(5), []int{2, 4, 6}[d.upTo(2)], []int{10, 100, 360}[d.upTo(2)])
		want, wrong := firstPlaces(r, l), api.OK
		if want == nil {
			wrong = api.ErrNone
			none++
		} else {
			some++
			later += min(1, slices.Max(append(want, 0)))
		}
		if got, e := rights.Place(r, l); !slices.Equal(got, want) || e != wrong {
			t.Fatalf("%v, %+v: %v, %d, want %v", r, l, got, e, want)
		}
	}
	if min(some, later, none) < 50 {
		t.Errorf("%d have places, %d of them later ones, %d have none", some, later, none)
	}
}

// P9.7

// crossing returns the first day on which a right is held on a plot on which one that it does not bear is held, or was within the days of rest, or -1.
func crossing(r api.RightsRule, l []api.Right) int {
	var last [12][7]int
	for day := range manyDays {
		for p := range last {
			for i, x := range l {
				if x.Plots>>p&1 == 1 && isHeldOn(x, day) {
					last[p][i] = day + 1
				}
			}
			for i, x := range l {
				for k, y := range l {
					if i != k && last[p][i] == day+1 && last[p][k] > max(0, day-r.Rest) && r.Bars[x.Use]>>y.Use&1 == 1 {
						return day
					}
				}
			}
		}
	}
	return -1
}

func TestNeverCrossing(t *testing.T) {
	d := &dice{6}
	some := 0
	for range 120 {
		r, l := d.rule(d.from(1, 6)), d.rights(d.upTo(7), 6, []int{30, 200}[d.upTo(1)])
		offsets, e := rights.Place(r, l)
		if e != api.OK {
			continue
		}
		some++
		for i := range l {
			if offsets[i] < 0 || offsets[i] >= l[i].Every || l[i].Fixed && offsets[i] != l[i].Offset {
				t.Fatalf("%+v: %v", l, offsets)
			}
			l[i].Offset = offsets[i]
		}
		if day := crossing(r, l); day >= 0 {
			t.Fatalf("%v, %+v: they cross on %d", r, l, day)
		}
		if meets, e := rights.Crosses(r, l); len(meets) != 0 || e != api.OK {
			t.Fatalf("%v, %+v: %v, %d", r, l, meets, e)
		}
		if again, e := rights.Place(r, l); !slices.Equal(again, offsets) || e != api.OK { // the first ones do not depend on offsets that can be chosen
			t.Fatalf("%v, %+v: %v, %d, want %v", r, l, again, e, offsets)
		}
	}
	if some < 40 {
		t.Errorf("only %d have places", some)
	}
}

func TestRightsWithoutPlacesCross(t *testing.T) {
	d := &dice{7}
	none := 0
	for range 400 {
		r, l := d.rule(8), d.rights(d.from(2, 7), 3, 200)
		if _, e := rights.Place(r, l); e != api.ErrNone {
			continue
		}
		none++
		for _, offsets := range allOffsets(l) {
			for i := range l {
				l[i].Offset = offsets[i]
			}
			if meets, e := rights.Crosses(r, l); len(meets) == 0 || e != api.OK {
				t.Fatalf("%v, %+v: %v, %d", r, l, meets, e)
			}
		}
	}
	if none < 50 {
		t.Errorf("only %d have no places", none)
	}
}
