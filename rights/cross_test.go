package rights_test

import (
	"slices"
	"testing"

	"pinaster/api"
	"pinaster/rights"
)

func expectCross(t *testing.T, name string, r api.RightsRule, l []api.Right, a, b, want int, none api.Errno) {
	t.Helper()
	for _, pair := range [][2]int{{a, b}, {b, a}} { // P9.8
		if day, e := rights.Cross(r, l, pair[0], pair[1]); day != want || e != none {
			t.Errorf("%s: %v: %d, %d, want %d, %d", name, pair, day, e, want, none)
		}
	}
}

// P9.3

func TestCross(t *testing.T) {
	for i, x := range []struct {
		a, b, day int
		e         api.Errno
	}{{0, 1, 1684, api.OK}, {1, 3, 610, api.OK}, {0, 2, 0, api.ErrNone}, {0, 3, 0, api.ErrNone}, {1, 2, 0, api.ErrNone}, {2, 3, 0, api.ErrNone}} {
		expectCross(t, "example "+string(rune('0'+i)), rule(), uses(), x.a, x.b, x.day, x.e)
	}
	apart := uses()
	apart[0].Plots = 9 // no plot of the cows
	expectCross(t, "no plot in common", rule(), apart, 0, 1, 0, api.ErrNone)
	apart[0].Plots, apart[1].Plots = 2048+1, 2048+2
	expectCross(t, "the last plot in common", rule(), apart, 0, 1, 1684, api.OK)
}

func TestRestBetween(t *testing.T) {
	for _, x := range []struct {
		name      string
		rest      int
		l         []api.Right
		want      int
		otherwise api.Errno
	}{
		{"as many days as must be", 5, times(during(0, 10, 20, 1, 0), during(3, 26, 30, 1, 0)), 0, api.ErrNone},
		{"one day less", 5, times(during(0, 10, 20, 1, 0), during(3, 25, 30, 1, 0)), 25, api.OK},
		{"the other one is first", 5, times(during(0, 25, 30, 1, 0), during(3, 10, 20, 1, 0)), 25, api.OK},
		{"no rest, the next day", 0, times(during(0, 10, 20, 1, 0), during(3, 21, 30, 1, 0)), 0, api.ErrNone},
		{"no rest, the same day", 0, times(during(0, 10, 20, 1, 0), during(3, 20, 30, 1, 0)), 20, api.OK},
		{"one day of rest", 1, times(during(0, 10, 20, 1, 0), during(3, 21, 30, 1, 0)), 21, api.OK},
		{"one within the other", 0, times(during(0, 10, 90, 1, 0), during(3, 40, 41, 1, 0)), 40, api.OK},
		{"the other within the one", 0, times(during(0, 40, 41, 1, 0), during(3, 10, 90, 1, 0)), 40, api.OK},
		{"the same days", 0, times(during(0, 10, 90, 1, 0), during(3, 10, 90, 1, 0)), 10, api.OK},
		{"over the end of a year", 5, times(during(0, 350, 358, 2, 0), during(3, 2, 9, 2, 1)), 362, api.OK},
		{"not over the end of a year", 3, times(during(0, 350, 358, 2, 0), during(3, 2, 9, 2, 1)), 0, api.ErrNone},
		{"the greatest rest, over the end of a year", 60, times(during(0, 330, 330, 1, 0), during(3, 30, 30, 1, 0)), 390, api.OK},
		{"no days before the day 0", 60, times(during(0, 300, 301, 1, 0), during(3, 0, 0, 1, 0)), 360, api.OK},
		{"one day too few for it", 60, times(during(0, 250, 299, 1, 0), during(3, 0, 0, 1, 0)), 0, api.ErrNone},
		{"a year later", 60, times(during(0, 355, 359, 4, 3), during(3, 0, 0, 4, 0)), 1440, api.OK},
		{"years that never meet", 0, times(during(0, 0, 359, 6, 1), during(3, 0, 359, 6, 3)), 0, api.ErrNone},
		{"years that never meet, of two", 0, times(during(0, 0, 359, 4, 1), during(3, 0, 359, 6, 2)), 0, api.ErrNone},
		{"years that follow each other", 1, times(during(0, 0, 359, 6, 1), during(3, 0, 359, 6, 2)), 720, api.OK},
		{"only the last year of all", 5, times(during(0, 355, 359, 5, 4), during(3, 0, 4, 6, 0)), 10800, api.OK}, // of 31 years
		{"the last year of a product", 0, times(during(0, 8, 9, 5, 4), during(3, 9, 10, 6, 5)), 360*29 + 9, api.OK},
		{"before the years are the same again", 60, times(during(0, 300, 310, 2, 0), during(3, 5, 9, 3, 0)), 1085, api.OK},
	} {
		expectCross(t, x.name, resting(x.rest, 8, 0, 8, 5), x.l, 0, 1, x.want, x.otherwise)
	}
}

func TestUsesThatBearEachOther(t *testing.T) {
	for u := range 4 {
		for v := range 4 {
			l := times(during(u, 3, 9, 1, 0), during(v, 4, 10, 1, 0))
			r := resting(0, 0, 0, 0, 0)
			expectCross(t, "nothing is barred", r, l, 0, 1, 0, api.ErrNone)
			r.Bars[u] |= 1 << v
			r.Bars[v] |= 1 << u
			expectCross(t, "one pair is barred", r, l, 0, 1, 4, api.OK)
			all := resting(0, 15, 15, 15, 15)
			expectCross(t, "all is barred", all, l, 0, 1, 4, api.OK)
			all.Bars[u] &^= 1 << v
			all.Bars[v] &^= 1 << u
			expectCross(t, "all but one pair is barred", all, l, 0, 1, 0, api.ErrNone)
		}
	}
	twice := times(during(0, 0, 9, 1, 0), during(0, 14, 20, 3, 2))
	expectCross(t, "a use that does not bear itself", resting(5, 9, 0, 8, 5), twice, 0, 1, 734, api.OK)
	expectCross(t, "a use that bears itself", rule(), twice, 0, 1, 0, api.ErrNone)
}

func TestFixedIsNothingToCross(t *testing.T) {
	l := uses()
	for i := range l {
		l[i].Fixed = true
	}
	if got, e := rights.Crosses(rule(), l); !slices.Equal(got, []api.Meet{{A: 0, B: 1, Day: 1684}, {A: 1, B: 3, Day: 610}}) || e != api.OK {
		t.Errorf("%v, %d", got, e)
	}
}

func TestCrosses(t *testing.T) {
	full := func(many int) []api.Right {
		return times(slices.Repeat([]api.Right{during(2, 0, 359, 1, 0)}, many)...)
	}
	var all []api.Meet
	for a := range 7 {
		for b := a + 1; b < 7; b++ {
			all = append(all, api.Meet{A: a, B: b})
		}
	}
	for i, x := range []struct {
		r    api.RightsRule
		l    []api.Right
		want []api.Meet
	}{
		{rule(), uses(), []api.Meet{{A: 0, B: 1, Day: 1684}, {A: 1, B: 3, Day: 610}}},
		{rule(), []api.Right{cep(), bee(), cow(), tap()}, []api.Meet{{A: 0, B: 2, Day: 610}, {A: 2, B: 3, Day: 1684}}},
		{resting(3, 8, 0, 8, 5), uses(), []api.Meet{{A: 1, B: 3, Day: 610}}},
		{resting(4, 8, 0, 0, 1), uses(), []api.Meet{{A: 0, B: 1, Day: 1684}}},
		{resting(60, 0, 0, 0, 0), uses(), nil},
		{rule(), nil, nil}, {rule(), uses()[:1], nil},
		{resting(0, 0, 0, 4, 0), full(7), all}, {resting(0, 4, 4, 11, 4), full(7), nil},
	} {
		if l, e := rights.Crosses(x.r, x.l); !slices.Equal(l, x.want) || e != api.OK {
			t.Errorf("%d: %v, %d, want %v", i, l, e, x.want)
		}
	}
}

// P9.3, P9.8

func TestCrossesOnEachDay(t *testing.T) {
	d := &dice{3}
	some, none := 0, 0
	for range 400 {
		r, l := d.rule(d.from(1, 10)), d.rights(d.upTo(6), []int{2, 6}[d.upTo(1)], []int{1, 20, 100, 360}[d.upTo(3)])
		want := crossesOf(r, l)
		var meets []api.Meet
		for a := range l {
			for b := range l {
				day, crosses := want[[2]int{a, b}]
				if crosses && a < b {
					meets = append(meets, api.Meet{A: a, B: b, Day: day})
				}
				if a == b {
					continue
				}
				got, e := rights.Cross(r, l, a, b)
				if got != day || crosses != (e == api.OK) || !crosses && e != api.ErrNone {
					t.Fatalf("%v, %+v: %d and %d: %d, %d, want %d, %v", r, l, a, b, got, e, day, crosses)
				}
				if crosses {
					some++
				} else {
					none++
				}
				if got/360 > l[a].Every*l[b].Every {
					t.Fatalf("%v, %+v: %d and %d only cross on %d", r, l, a, b, got)
				}
			}
		}
		if got, e := rights.Crosses(r, l); !slices.Equal(got, meets) || e != api.OK {
			t.Fatalf("%v, %+v: %v, %d, want %v", r, l, got, e, meets)
		}
	}
	if min(some, none) < 500 {
		t.Errorf("%d cross, %d do not", some, none)
	}
}

// P9.10

func TestFewerRightsCross(t *testing.T) {
	d := &dice{4}
	fewer := 0
	for range 1000 {
		r, l := d.rule(7), d.rights(d.from(2, 7), 6, 60)
		less := r
		if d.upTo(1) == 0 {
			less.Rest = d.upTo(r.Rest)
		} else {
			u, v := d.upTo(3), d.upTo(3)
			less.Bars[u] &^= 1 << v
			less.Bars[v] &^= 1 << u
		}
		before, _ := rights.Crosses(r, l)
		after, _ := rights.Crosses(less, l)
		if len(after) < len(before) {
			fewer++
		}
		for _, m := range after {
			if !slices.ContainsFunc(before, func(o api.Meet) bool { return o.A == m.A && o.B == m.B && o.Day <= m.Day }) {
				t.Fatalf("%+v: %v with %v, %v with %v", l, before, r, after, less)
			}
		}
		_, e := rights.Place(r, l)
		if _, f := rights.Place(less, l); e == api.OK && f != api.OK {
			t.Fatalf("%+v: places with %v, but none with %v", l, r, less)
		}
	}
	if fewer < 100 {
		t.Errorf("only %d times fewer rights cross", fewer)
	}
}
