package rights_test

import (
	"testing"

	"pinaster/api"
	"pinaster/rights"
)

// expectFell checks Fell and Glut: there are felling years if and only if there is no glut (P9.9).
func expectFell(t *testing.T, l []api.FellPlot, many, from, to int, glut bool) {
	t.Helper()
	wantFell, wantGlut := api.OK, api.ErrNone
	if glut {
		wantFell, wantGlut = api.ErrNone, api.OK
	}
	if gotFrom, gotTo, e := rights.Glut(l, many); gotFrom != from || gotTo != to || e != wantGlut {
		t.Errorf("Glut of %v, %d a year: %d, %d, %d, want %d, %d, %d", l, many, gotFrom, gotTo, e, from, to, wantGlut)
	}
	list, e := rights.Fell(l, many)
	if e != wantFell || e == api.OK && !areFellingYears(l, many, list) || e != api.OK && len(list) != 0 {
		t.Errorf("Fell of %v, %d a year: %v, %d, want %d", l, many, list, e, wantFell)
	}
}

// P9.5

func TestFell(t *testing.T) {
	three := []api.FellPlot{plot(80, 80, 81), plot(80, 80, 81), plot(80, 80, 81)}
	chain := []api.FellPlot{plot(50, 50, 52), plot(50, 50, 50), plot(49, 50, 51), plot(50, 50, 53)}
	full := append(chain[:4:4], plot(50, 51, 53))
	same := func(many, age, low, high int) []api.FellPlot {
		var l []api.FellPlot
		for range many {
			l = append(l, plot(age, low, high))
		}
		return l
	}
	for _, x := range []struct {
		l        []api.FellPlot
		many     int
		from, to int
		glut     bool
	}{
		{wood(), 1, 0, 0, false}, {wood(), 4, 0, 0, false}, {wood(), 0, 0, 2, true},
		{three, 1, 0, 1, true}, {three, 2, 0, 0, false}, {chain, 1, 0, 0, false}, {full, 1, 0, 3, true}, {full, 2, 0, 0, false},
		{nil, 0, 0, 0, false}, {nil, 4, 0, 0, false}, {same(1, 0, 200, 200), 1, 0, 0, false}, {same(1, 0, 200, 200), 0, 0, 200, true},
		{same(2, 0, 200, 200), 1, 200, 200, true}, {same(2, 1, 200, 200), 1, 199, 199, true}, {same(2, 0, 0, 0), 1, 0, 0, true}, {same(2, 0, 0, 0), 2, 0, 0, false},
		{same(10, 0, 0, 200), 1, 0, 0, false}, {same(10, 0, 0, 9), 1, 0, 0, false}, {same(10, 0, 0, 8), 1, 0, 8, true}, {same(10, 0, 192, 200), 1, 192, 200, true}, {same(10, 0, 191, 200), 1, 0, 0, false}, {same(4, 200, 0, 200), 4, 0, 0, false}, {same(5, 200, 0, 200), 4, 0, 0, true},
		{same(10, 100, 105, 107), 3, 5, 7, true}, {same(9, 100, 105, 107), 3, 0, 0, false}, {same(5, 100, 50, 101), 2, 0, 1, true}, {same(4, 100, 50, 101), 2, 0, 0, false}, // ages that are past do not count
		{append(same(2, 10, 20, 20), plot(10, 10, 15), plot(10, 15, 30)), 1, 10, 10, true}, {append(same(3, 10, 20, 21), same(2, 10, 12, 12)...), 1, 2, 2, true}, {append(same(2, 10, 12, 12), same(3, 10, 20, 21)...), 1, 2, 2, true},
		{same(3, 10, 11, 12), 1, 1, 2, true}, {same(4, 10, 11, 12), 1, 0, 2, true}, {append(same(2, 10, 10, 10), same(3, 10, 10, 11)...), 1, 0, 0, true}, {append(same(3, 10, 10, 11), same(2, 10, 11, 11)...), 1, 0, 1, true}, // the first year decides, then the last one
	} {
		expectFell(t, x.l, x.many, x.from, x.to, x.glut)
	}
}

// throw throws plots, and how many can be felled in a year.
func (d *dice) throw() (l []api.FellPlot, many int) {
	many = []int{0, 1, 1, 1, 1, 2, 2, 3, 4}[d.upTo(8)]
	return d.plots(d.upTo(10), d.upTo(9), d.from(1, 6)), many
}

// P9.5, P9.9

func TestFellingYears(t *testing.T) {
	d := &dice{8}
	some, none := 0, 0
	for range 1000 {
		l, many := d.throw()
		from, to, glut := firstGlut(l, many)
		if glut {
			none++
		} else {
			some++
		}
		expectFell(t, l, many, from, to, glut)
		if len(l) <= 7 && haveFellingYears(l, many) == glut {
			t.Fatalf("%v, %d a year: a glut is %v", l, many, glut)
		}
	}
	if min(some, none) < 300 {
		t.Errorf("%d can be felled, %d cannot", some, none)
	}
}

func TestFellingYearsOfLongTimes(t *testing.T) {
	d := &dice{9}
	for range 300 {
		l, many := d.plots(d.upTo(10), 200, d.from(1, 200)), d.upTo(4)
		from, to, glut := firstGlut(l, many)
		expectFell(t, l, many, from, to, glut)
	}
}

// P9.10

func TestNoFellingYearsAreLost(t *testing.T) {
	d := &dice{10}
	gained := 0
	for range 3000 {
		l, many := d.throw()
		_, e := rights.Fell(l, many)
		if d.upTo(2) == 0 || len(l) == 0 {
			many = min(4, many+1)
		} else {
			p := &l[d.upTo(len(l)-1)].Ages
			p.Low, p.High = max(0, p.Low-d.upTo(2)), min(200, p.High+d.upTo(2))
		}
		list, f := rights.Fell(l, many)
		if e == api.OK && f != api.OK {
			t.Fatalf("%v, %d a year: felling years are lost", l, many)
		}
		if f == api.OK && !areFellingYears(l, many, list) {
			t.Fatalf("%v, %d a year: %v", l, many, list)
		}
		if e != api.OK && f == api.OK {
			gained++
		}
	}
	if gained < 100 {
		t.Errorf("only %d gain felling years", gained)
	}
}
