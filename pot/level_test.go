package pot_test

import (
	"testing"

	"pinaster/api"
	"pinaster/pot"
)

// P3.2

func TestLevel(t *testing.T) {
	dry, full := run(), run()
	dry.Base = 500
	full.Pots[0] = api.Pot{Tag: "f", Size: 10000000, Has: span(0, 10000000), Flow: 1000, Catch: 1000}
	full.Base, full.Days = 0, make([]api.PotDay, 8)
	for i := range full.Days {
		full.Days[i] = api.PotDay{Warm: span(0, 500), Rain: span(0, 2000)}
	}
	for _, x := range []struct {
		r              api.PotRun
		pot, from, day int
		want           api.Span
	}{
		{run(), 0, -1, 0, span(200, 350)}, {run(), 0, -1, 1, span(400, 550)}, {run(), 0, -1, 2, span(400, 860)},
		{run(), 0, 0, 0, span(100, 200)}, {run(), 0, 0, 1, span(300, 400)}, {run(), 0, 0, 2, span(300, 710)},
		{run(), 0, 1, 1, span(200, 200)}, {run(), 0, 1, 2, span(200, 510)}, {run(), 0, 2, 2, span(0, 310)},
		{run(), 1, -1, 2, span(150, 350)}, {run(), 1, 0, 2, span(150, 350)}, {run(), 1, 2, 2, span(0, 150)},
		{run(), 2, -1, 0, span(100, 150)}, {run(), 2, -1, 2, span(200, 450)}, {run(), 2, 2, 2, span(0, 200)},
		{dry, 0, -1, 2, span(100, 160)}, {dry, 0, 0, 2, span(0, 10)}, {dry, 1, 0, 2, span(0, 0)}, {dry, 2, 1, 2, span(0, 50)},
		{full, 0, -1, 7, span(0, 30000000)}, {full, 0, 0, 7, span(0, 20000000)}, {full, 0, 7, 7, span(0, 2500000)},
	} {
		if level, e := pot.Level(x.r, x.pot, x.from, x.day); level != x.want || e != api.OK {
			t.Errorf("the pot %d from %d on the day %d: %v, %d, want %v", x.pot, x.from, x.day, level, e, x.want)
		}
	}
	for _, days := range [][2]int{{1, 0}, {2, 1}, {2, 0}, {-1, -1}, {0, -1}, {-2, 0}, {-1, 3}, {3, 3}} {
		if level, e := pot.Level(run(), 0, days[0], days[1]); level != span(0, 0) || e != api.ErrPot {
			t.Errorf("from %d on the day %d: %v, %d", days[0], days[1], level, e)
		}
	}
}

func TestLevelAtTheBase(t *testing.T) {
	for warm, want := range map[int]int{0: 0, 99: 0, 100: 0, 101: 7, 102: 14, 500: 2800} {
		r := api.PotRun{Base: 100, Days: []api.PotDay{{Warm: span(warm, warm)}}, Pots: []api.Pot{{Tag: "a", Size: 1, Flow: 7, Catch: 3}}}
		if level, e := pot.Level(r, 0, 0, 0); level != span(want, want) || e != api.OK {
			t.Errorf("the warmth %d: %v, %d", warm, level, e)
		}
		r.Days[0].Warm.Low = 0
		if level, e := pot.Level(r, 0, 0, 0); level != span(0, want) || e != api.OK {
			t.Errorf("the warmth 0 to %d: %v, %d", warm, level, e)
		}
	}
}

func TestDue(t *testing.T) {
	small := run()
	small.Pots[1].Size = 99
	late := steady(0, 8, 30, 10, 9, 80, 79)
	late.Days[0].Warm = span(0, 0)
	for _, x := range []struct {
		r               api.PotRun
		pot, from, want int
	}{
		{run(), 0, -1, 1}, {run(), 0, 0, 2}, {run(), 0, 1, 2}, {run(), 0, 2, 3},
		{run(), 1, -1, 3}, {run(), 1, 0, 3}, {run(), 1, 2, 3},
		{run(), 2, -1, 2}, {run(), 2, 0, 2}, {run(), 2, 1, 2}, {run(), 2, 2, 3},
		{small, 1, -1, 0}, {small, 1, 0, 0}, {small, 1, 1, 1}, {small, 1, 2, 2},
		{late, 0, -1, 4}, {late, 0, 0, 4}, {late, 0, 1, 4}, {late, 0, 2, 5}, {late, 0, 4, 7}, {late, 0, 5, 8}, {late, 0, 7, 8},
		{late, 1, -1, 2}, {late, 1, 0, 2}, {late, 1, 6, 7}, {late, 1, 7, 8},
		{late, 2, -1, 1}, {late, 2, 0, 1}, {late, 2, 1, 1}, {late, 2, 7, 7},
		{late, 3, -1, 8}, {late, 4, -1, 8},
	} {
		if due, e := pot.Due(x.r, x.pot, x.from); due != x.want || e != api.OK {
			t.Errorf("the pot %d of %v from %d: %d, %d, want %d", x.pot, x.r, x.from, due, e, x.want)
		}
	}
	for _, from := range []int{-2, 3, 4} {
		if due, e := pot.Due(run(), 0, from); due != 0 || e != api.ErrPot {
			t.Errorf("from %d: %d, %d", from, due, e)
		}
	}
}

func TestDueAtTheSize(t *testing.T) {
	for size, want := range map[int]int{1: 0, 349: 0, 350: 1, 351: 1, 549: 1, 550: 2, 551: 2, 859: 2, 860: 3, 861: 3} {
		r := run()
		r.Pots[0].Size, r.Pots[0].Has = size, span(min(size, 100), min(size, 150))
		if due, e := pot.Due(r, 0, -1); due != want || e != api.OK {
			t.Errorf("the size %d: %d, %d, want %d", size, due, e, want)
		}
	}
}

func TestLevelOfAllTruths(t *testing.T) {
	d := &dice{1}
	for range 150 {
		r := d.run(2, d.from(1, 2))
		all := truths(r)
		for i := range r.Pots {
			for from := -1; from < len(r.Days); from++ {
				due := len(r.Days)
				for day := max(from, 0); day < len(r.Days); day++ {
					want := levelOf(r, all[0], i, from, day)
					for _, x := range all {
						level := levelOf(r, x, i, from, day)
						want = span(min(want.Low, level.Low), max(want.High, level.High))
					}
					if level, e := pot.Level(r, i, from, day); level != want || e != api.OK {
						t.Fatalf("%v, the pot %d from %d on the day %d: %v, %d, want %v", r, i, from, day, level, e, want)
					}
					if want.High > r.Pots[i].Size {
						due = min(due, day)
					}
				}
				if is, e := pot.Due(r, i, from); is != due || e != api.OK {
					t.Fatalf("%v, the pot %d from %d: %d, %d, want %d", r, i, from, is, e, due)
				}
			}
		}
	}
}

// levelOf is the level in a truth.
func levelOf(r api.PotRun, x api.PotTruth, pot, from, day int) api.Span {
	level := 0
	if from == -1 {
		level = x.Has[pot]
	}
	for k := max(from, 0); k <= day; k++ {
		resin, water := comes(r, x, pot, k)
		level += resin + water
	}
	return span(level, level)
}

// P3.11

func TestNotDueEarlier(t *testing.T) {
	d := &dice{2}
	for range 1500 {
		r := d.run(d.from(1, 6), d.from(1, 8))
		n := d.narrower(r)
		for i := range r.Pots {
			last := 0
			for from := -1; from < len(r.Days); from++ {
				due, e1 := pot.Due(r, i, from)
				later, e2 := pot.Due(n, i, from)
				if e1 != api.OK || e2 != api.OK || due < last || due < from || later < due {
					t.Fatalf("%v, the pot %d from %d: %d after %d; %v: %d", r, i, from, due, last, n, later)
				}
				last = due
			}
		}
	}
}
