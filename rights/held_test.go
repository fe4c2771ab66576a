package rights_test

import (
	"testing"

	"pinaster/api"
	"pinaster/rights"
)

// P9.2

func TestHeld(t *testing.T) {
	for _, x := range []struct {
		right, year, day int
		want             bool
	}{
		{1, 4, 244, true}, {1, 5, 244, false}, {1, 4, 243, false}, {1, 4, 300, true}, {1, 4, 301, false}, {1, 0, 244, false}, {1, 1, 250, true}, {1, 2, 250, false}, {1, 3, 250, false}, {1, 2998, 250, true}, {1, 3000, 250, false},
		{0, 0, 60, true}, {0, 0, 59, false}, {0, 1, 60, false}, {0, 3000, 240, true}, {0, 2999, 240, false}, {0, 3000, 241, false},
		{2, 0, 100, true}, {2, 1, 200, true}, {2, 2999, 150, true}, {2, 3000, 99, false}, {3, 0, 250, false}, {3, 1, 250, true}, {3, 1, 330, true}, {3, 1, 331, false}, {3, 3000, 330, false},
	} {
		if is, e := rights.Held(uses(), x.right, x.year, x.day); is != x.want || e != api.OK {
			t.Errorf("%d in %d, day %d: %v, %d", x.right, x.year, x.day, is, e)
		}
	}
	ends := times(during(0, 0, 0, 1, 0), during(0, 359, 359, 6, 5), during(0, 0, 359, 6, 0))
	for i, want := range [][3]bool{{true, false, true}, {false, true, false}, {false, false, true}} {
		for right, is := range want {
			year, day := [3]int{12, 17, 6}[i], [3]int{0, 359, 180}[i]
			if got, e := rights.Held(ends, right, year, day); got != is || e != api.OK {
				t.Errorf("%d in %d, day %d: %v, %d", right, year, day, got, e)
			}
		}
	}
}

func TestHeldOnEachDay(t *testing.T) {
	d := &dice{1}
	for range 30 {
		l := d.rights(d.from(1, 7), 6, 360)
		right := d.upTo(len(l) - 1)
		for _, year := range []int{0, 1, 2, 3, 4, 5, 6, 7, d.upTo(3000), 2999, 3000} {
			for day := range 360 {
				if is, e := rights.Held(l, right, year, day); is != isHeldOn(l[right], 360*year+day) || e != api.OK {
					t.Fatalf("%+v in %d, day %d: %v, %d", l[right], year, day, is, e)
				}
			}
		}
	}
}

func TestDays(t *testing.T) {
	both := append(uses(), api.Right{Name: "hive", Use: api.UseHoney, Plots: 2, From: 190, To: 210, Every: 2}, api.Right{Name: "skep", Use: api.UseHoney, Plots: 2050, From: 150, To: 160, Every: 1})
	for _, x := range []struct {
		l                     []api.Right
		use, plot, year, want int
	}{
		{uses(), api.UseHoney, 1, 7, 101}, {uses(), api.UsePasture, 1, 0, 0}, {uses(), api.UsePasture, 1, 1, 57}, {uses(), api.UsePasture, 2, 3000, 0}, {uses(), api.UsePasture, 0, 1, 0}, {uses(), api.UsePasture, 3, 1, 0}, {uses(), api.UseResin, 0, 3000, 181}, {uses(), api.UseResin, 1, 2999, 0}, {uses(), api.UseResin, 2, 0, 0}, {uses(), api.UseMush, 2, 1, 81}, {uses(), api.UseMush, 1, 1, 0}, {uses(), api.UseHoney, 11, 0, 0},
		{both, api.UseHoney, 1, 2, 111}, {both, api.UseHoney, 1, 3, 101}, {both, api.UseHoney, 0, 2, 101}, {both, api.UseHoney, 11, 2, 11},
		{times(during(2, 0, 359, 1, 0), during(2, 0, 359, 1, 0)), api.UseMush, 0, 5, 360}, {times(during(2, 0, 179, 1, 0), during(2, 180, 359, 2, 1)), api.UseMush, 0, 5, 360}, {times(during(2, 0, 179, 1, 0), during(2, 180, 359, 2, 1)), api.UseMush, 0, 4, 180}, {times(during(2, 7, 7, 6, 5)), api.UseMush, 0, 5, 1},
		{nil, api.UseMush, 0, 5, 0},
	} {
		if n, e := rights.Days(x.l, x.use, x.plot, x.year); n != x.want || e != api.OK {
			t.Errorf("%d on %d in %d: %d, %d, want %d", x.use, x.plot, x.year, n, e, x.want)
		}
	}
}

func TestDaysAreCounted(t *testing.T) {
	d := &dice{2}
	for range 1500 {
		l := d.rights(d.upTo(7), 3, d.from(1, 360))
		use, plot, year := d.upTo(3), d.upTo(11), d.upTo(3000)
		want := 0
		for day := range 360 {
			for _, x := range l {
				if x.Use == use && x.Plots>>plot&1 == 1 && isHeldOn(x, 360*year+day) {
					want++
					break
				}
			}
		}
		if n, e := rights.Days(l, use, plot, year); n != want || e != api.OK {
			t.Fatalf("%+v: %d on %d in %d: %d, %d, want %d", l, use, plot, year, n, e, want)
		}
	}
}
