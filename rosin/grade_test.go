package rosin_test

import (
	"slices"
	"testing"

	"pinaster/api"
	"pinaster/rosin"
)

// P7.1

func TestGrade(t *testing.T) {
	tied := append(grades(), grade("tied", 300, 700, 800, 160, 5, 60), grade("y", 600, 650, 850, 149, 20, 0)) // the third one asks for the same as the first one
	for i, x := range []struct {
		l    []api.RosinGrade
		q    row
		want int
	}{
		{grades(), row{300, 750, 160, 5}, 0}, {grades(), row{301, 750, 160, 5}, 1}, {grades(), row{601, 750, 160, 5}, 2},
		{grades(), row{0, 700, 300, 0}, 0}, {grades(), row{300, 700, 160, 5}, 0}, {grades(), row{300, 800, 160, 5}, 0},
		{grades(), row{300, 699, 160, 5}, 1}, {grades(), row{300, 801, 160, 5}, 1}, {grades(), row{300, 700, 159, 5}, 1}, {grades(), row{300, 700, 160, 6}, 1},
		{grades(), row{600, 650, 150, 20}, 1}, {grades(), row{600, 850, 150, 20}, 1}, {grades(), row{600, 649, 150, 20}, 2}, {grades(), row{600, 851, 150, 20}, 2}, {grades(), row{600, 650, 149, 20}, 2}, {grades(), row{600, 650, 150, 21}, 2},
		{tied, row{300, 750, 160, 5}, 0}, {tied, row{600, 650, 149, 20}, 3}, {tied, row{600, 650, 150, 20}, 1}, {tied, row{600, 650, 148, 20}, 4},
		{free(0), row{1000, 2000, 0, 1000}, 0}, {free(0), row{0, 0, 300, 0}, 0}, {free(0), row{}, 0},
		{[]api.RosinGrade{grade("none", 0, 5, 5, 300, 0, 0)}, row{0, 5, 300, 0}, 0}, {[]api.RosinGrade{grade("none", 0, 5, 5, 300, 0, 0)}, row{0, 5, 299, 0}, 1},
		{[]api.RosinGrade{grade("narrow", 9, 5, 5, 0, 9, 0), grade("wide", 9, 4, 6, 0, 9, 0)}, row{9, 5, 0, 9}, 0}, {[]api.RosinGrade{grade("narrow", 9, 5, 5, 0, 9, 0), grade("wide", 9, 4, 6, 0, 9, 0)}, row{9, 6, 0, 9}, 1},
		{[]api.RosinGrade{grade("wide", 9, 4, 6, 0, 9, 0), grade("narrow", 9, 5, 5, 0, 9, 0)}, row{9, 5, 0, 9}, 0}, {[]api.RosinGrade{grade("wide", 9, 4, 6, 0, 9, 0), grade("narrow", 9, 5, 5, 0, 9, 0)}, row{9, 7, 0, 9}, 2},
	} {
		if n, e := rosin.Grade(x.l, x.q.quality()); n != x.want || e != api.OK {
			t.Errorf("%d: %v: %d, %d, want %d", i, x.q, n, e, x.want)
		}
	}
}

// P7.1, P7.9

func TestGradesOfThrownQualities(t *testing.T) {
	d := &dice{2}
	var seen [9]int
	for range 3000 {
		r := d.row()
		far := d.from(1, 6)
		l := d.grades(d.from(1, 8), r, far)
		q := d.rowNear(r, far)
		n, e := rosin.Grade(l, q.quality())
		if n != q.grade(l) || e != api.OK {
			t.Fatalf("%v of %v: %d, %d, want %d", q, l, n, e, q.grade(l))
		}
		seen[n]++
		better := row{d.upTo(q[0]), q[1], d.from(q[2], 300), d.upTo(q[3])}
		if m, e := rosin.Grade(l, better.quality()); m > n || e != api.OK {
			t.Fatalf("%v of %v: %d, %d, but %v has %d", better, l, m, e, q, n)
		}
	}
	if slices.Min(seen[:]) < 10 {
		t.Errorf("grades that were seen: %v", seen)
	}
}
