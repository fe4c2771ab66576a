package still_test

import (
	"testing"

	"pinaster/api"
	"pinaster/still"
)

// P5.2

func TestFlash(t *testing.T) {
	for vacuum, want := range map[int]int{0: 160, 1: 159, 2: 159, 3: 158, 5: 158, 20: 152, 49: 140, 50: 140, 51: 139, 60: 130, 99: 91, 100: 90} {
		if n, e := still.Flash(small(), vacuum); n != want || e != api.OK {
			t.Errorf("at %d: %d, %d, want %d", vacuum, n, e, want)
		}
	}
	for _, vacuum := range append([]int{101, 102}, odd...) {
		if n, e := still.Flash(small(), vacuum); n != 0 || e != api.ErrStillStep {
			t.Errorf("at %d: %d, %d", vacuum, n, e)
		}
	}
}

func TestRange(t *testing.T) {
	for i, x := range []struct {
		flash, margin, cold int
		want                api.Span
	}{
		{152, 10, 100, span(100, 142)}, {200, 0, 0, span(0, 200)}, {0, 200, 0, span(0, -200)}, {9, 10, 0, span(0, -1)},
		{10, 10, 0, span(0, 0)}, {100, 20, 200, span(200, 80)}, {200, 0, 200, span(200, 200)},
	} {
		s := level(x.flash, span(0, 0), span(0, 200), heat(0, 0, 0))
		s.Margin, s.Steps[0].Cold = x.margin, x.cold
		if got, e := still.Range(s, 0); got != x.want || e != api.OK {
			t.Errorf("%d: %v, %d", i, got, e)
		}
	}
	for step, want := range []api.Span{span(100, 142), span(95, 120)} {
		if got, e := still.Range(small(), step); got != want || e != api.OK {
			t.Errorf("the step %d: %v, %d", step, got, e)
		}
	}
}

// P5.10

func TestFlashDoesNotRise(t *testing.T) {
	d := &dice{1}
	for range 300 {
		s := d.anyStill()
		o := oracle{Still: s}
		last := 200
		for vacuum := range 101 {
			n, e := still.Flash(s, vacuum)
			if n != o.flash(vacuum) || n > last || n < 0 || e != api.OK {
				t.Fatalf("%v at %d: %d, %d, want %d", s.Table, vacuum, n, e, o.flash(vacuum))
			}
			last = n
		}
		for step, x := range s.Steps {
			if got, e := still.Range(s, step); got != span(x.Cold, o.flash(x.Vacuum)-s.Margin) || e != api.OK {
				t.Fatalf("%v, %v: %v, %d", s.Table, x, got, e)
			}
		}
	}
}

// P5.4

func TestNext(t *testing.T) {
	for _, x := range []struct {
		step, temp, setting int
		want                api.Span
	}{
		{0, 110, 1, span(108, 117)}, {0, 110, 0, span(100, 105)}, {1, 110, 1, span(113, 117)}, {1, 110, 0, span(105, 105)},
		{0, 0, 0, span(0, 0)}, {0, 4, 0, span(0, 0)}, {0, 5, 0, span(0, 0)}, {0, 6, 0, span(0, 1)}, {0, 10, 0, span(0, 5)}, {0, 11, 0, span(1, 6)}, {0, 0, 1, span(0, 7)},
		{0, 192, 1, span(190, 199)}, {0, 193, 1, span(191, 200)}, {0, 194, 1, span(192, 200)}, {0, 200, 1, span(198, 200)}, {1, 198, 1, span(200, 200)}, {1, 197, 1, span(200, 200)}, {1, 196, 1, span(199, 200)},
	} {
		if s, e := still.Next(small(), x.step, x.temp, x.setting); s != x.want || e != api.OK {
			t.Errorf("%v: %v, %d", x, s, e)
		}
	}
	wide := level(0, span(0, 60), span(0, 0), heat(0, 60, 0))
	for temp, want := range map[int]api.Span{0: span(0, 60), 30: span(0, 90), 100: span(40, 160), 200: span(140, 200)} {
		if s, e := still.Next(wide, 0, temp, 0); s != want || e != api.OK {
			t.Errorf("%d: %v, %d", temp, s, e)
		}
	}
}

func TestNextAgainstAllHeats(t *testing.T) {
	d := &dice{2}
	for range 200 {
		s := d.anyStill()
		o := oracle{Still: s}
		step, setting, temp := d.upTo(len(s.Steps)-1), d.upTo(len(s.Settings)-1), d.upTo(200)
		all := o.after(step, temp, setting)
		if got, e := still.Next(s, step, temp, setting); got != span(all[0], all[len(all)-1]) || e != api.OK {
			t.Fatalf("%v, step %d, %d, setting %d: %v, %d, want %v", s, step, temp, setting, got, e, all)
		}
	}
}
