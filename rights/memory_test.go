package rights_test

import (
	"fmt"
	"slices"
	"testing"

	"pinaster/api"
	"pinaster/rights"
)

// roomy returns a list with room behind it, and all of that room.
func roomy[T any](list []T, canary T) (short, whole []T) {
	whole = append(slices.Clone(list), canary, canary, canary)
	return whole[:len(list)], whole
}

// isUnchanged reports whether a list with room behind it is as roomy made it.
func isUnchanged[T comparable](whole, list []T, canary T) bool {
	_, want := roomy(list, canary)
	return slices.Equal(whole, want)
}

// P9.6

func TestArgumentsAreOnlyRead(t *testing.T) {
	noRight, noPlot := during(-7, -7, -7, -7, -7), plot(-7, -7, -7)
	for _, offset := range []int{0, 1} { // with places, and without
		q := ask()
		q.l[3].Offset, q.l[3].Fixed = offset, offset == 1
		q.l[1].Every = 2
		l, plots := slices.Clone(q.l), slices.Clone(q.plots)
		var allRights []api.Right
		var allPlots []api.FellPlot
		q.l, allRights = roomy(q.l, noRight)
		q.plots, allPlots = roomy(q.plots, noPlot)
		expect(t, q, api.OK, names...)
		q.many = 0
		expect(t, q, api.OK, names...)
		if !isUnchanged(allRights, l, noRight) || !isUnchanged(allPlots, plots, noPlot) {
			t.Errorf("the rights: %v, the plots: %v", allRights, allPlots)
		}
	}
}

// spoil overwrites all of a list, also the room behind it.
func spoil[T any](list []T, canary T) {
	for i := range list[:cap(list)] {
		list[:cap(list)][i] = canary
	}
}

func TestResultsAreNew(t *testing.T) {
	l := times(during(0, 0, 9, 3, 1), during(3, 0, 9, 3, 1), during(0, 0, 9, 3, 2))
	want := []int{0, 1, 0}
	for range 2 {
		offsets, e := rights.Place(rule(), l)
		if !slices.Equal(offsets, want) || e != api.OK {
			t.Errorf("places: %v, %d", offsets, e)
		}
		spoil(offsets, -9)
		meets, e := rights.Crosses(rule(), uses())
		if len(meets) != 2 || meets[0] != (api.Meet{A: 0, B: 1, Day: 1684}) || e != api.OK {
			t.Errorf("crosses: %v, %d", meets, e)
		}
		spoil(meets, api.Meet{A: -9, B: -9, Day: -9})
		years, e := rights.Fell(wood(), 1)
		if !areFellingYears(wood(), 1, years) || e != api.OK {
			t.Errorf("felling years: %v, %d", years, e)
		}
		spoil(years, -9)
	}
}

// P2

func TestSameArgumentsSameResults(t *testing.T) {
	d := &dice{11}
	results := func(q question) string {
		is, e1 := rights.Held(q.l, q.right, q.year, q.day)
		days, e2 := rights.Days(q.l, q.use, q.plot, q.year)
		day, e3 := rights.Cross(q.r, q.l, q.a, q.b)
		meets, e4 := rights.Crosses(q.r, q.l)
		places, e5 := rights.Place(q.r, q.l)
		_, e6 := rights.Fell(q.plots, q.many) // any felling years will do
		from, to, e7 := rights.Glut(q.plots, q.many)
		return fmt.Sprint(is, days, day, meets, places, from, to, e1, e2, e3, e4, e5, e6, e7)
	}
	for range 300 {
		q, other := d.question(), d.question()
		first := results(q)
		results(other)
		if again := results(q); again != first {
			t.Fatalf("%v, and then %v", first, again)
		}
	}
}

// question throws one to which all answers are OK or ErrNone.
func (d *dice) question() question {
	q := question{
		r: d.rule(5), l: d.rights(d.from(2, 7), 6, 100), year: d.upTo(3000), day: d.upTo(359), use: d.upTo(3), plot: d.upTo(11),
		plots: d.plots(d.upTo(10), 20, 9), many: d.upTo(4),
	}
	q.right, q.a = d.upTo(len(q.l)-1), d.upTo(len(q.l)-2)
	q.b = d.from(q.a+1, len(q.l)-1)
	return q
}

// R3

func TestNilAndEmpty(t *testing.T) {
	for _, empty := range []bool{false, true} {
		q := ask()
		q.l, q.plots = nil, nil
		if empty {
			q.l, q.plots = []api.Right{}, []api.FellPlot{}
		}
		expect(t, q, api.OK, "CheckRule", "Check", "Days", "Crosses", "Place", "Fell", "Glut")
		expect(t, q, api.ErrRight, "Held", "Cross")
		if l, e := rights.Place(q.r, q.l); len(l) != 0 || e != api.OK {
			t.Errorf("places of no rights: %v, %d", l, e)
		}
		if l, e := rights.Crosses(q.r, q.l); len(l) != 0 || e != api.OK {
			t.Errorf("crosses of no rights: %v, %d", l, e)
		}
		if n, e := rights.Days(q.l, 0, 0, 0); n != 0 || e != api.OK {
			t.Errorf("days of no rights: %d, %d", n, e)
		}
		for many := range 5 {
			expectFell(t, q.plots, many, 0, 0, false)
		}
	}
}

// P1

func TestGreatestArguments(t *testing.T) {
	all := resting(60, 15, 15, 15, 15)
	seldom := times(slices.Repeat([]api.Right{during(3, 0, 359, 6, 5)}, 7)...)
	late := times(append(slices.Repeat([]api.Right{during(3, 0, 200, 6, 5)}, 6), during(3, 0, 359, 1, 0))...)
	for i := range late[:5] {
		late[i].Plots = 1 << (i + 1) // only the last two rights have a plot in common
	}
	for i, x := range []struct {
		l []api.Right
		e api.Errno
	}{{seldom, api.ErrNone}, {seldom[:3], api.OK}, {seldom[:4], api.ErrNone}, {late, api.ErrNone}, {late[:6], api.OK}} {
		if _, e := rights.Place(all, x.l); e != x.e {
			t.Errorf("%d: %d", i, e)
		}
	}
	if is, e := rights.Held(seldom, 6, 2999, 359); !is || e != api.OK {
		t.Errorf("held: %v, %d", is, e)
	}
	if n, e := rights.Days(seldom, 3, 0, 2999); n != 360 || e != api.OK {
		t.Errorf("days: %d, %d", n, e)
	}
}

func TestAnyQuestion(t *testing.T) {
	d := &dice{12}
	for range 1000 {
		expect(t, d.question(), api.OK, names...)
	}
	for range 5000 {
		n := func() int { return append(odd, 0, 1, 2, 3, 60, 359)[d.upTo(len(odd)+5)] }
		l := times(during(n(), n(), n(), n(), n()), during(n(), n(), n(), n(), n()))
		l[0].Plots, l[1].Plots = n(), n()
		q := question{resting(n(), n(), n(), n(), n()), l, n(), n(), n(), n(), n(), n(), n(), []api.FellPlot{plot(n(), n(), n()), plot(n(), n(), n())}, n()}
		if slices.Contains(q.answers(), -1) {
			t.Fatalf("%+v: %v", q, q.answers())
		}
	}
}
