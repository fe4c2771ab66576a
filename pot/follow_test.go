package pot_test

import (
	"slices"
	"testing"

	"pinaster/api"
	"pinaster/pot"
)

// P3.3

func TestFollow(t *testing.T) {
	for _, x := range []struct {
		plan [][]int
		want []api.PotYield
	}{
		{[][]int{nil, nil, {2}}, []api.PotYield{{OverResin: 450, OverWater: 10, LeftResin: 400}, {LeftResin: 350}, {Resin: 250, LeftResin: 150, LeftWater: 50}}},
		{[][]int{nil, {0}, {0}}, []api.PotYield{{Resin: 550, LeftResin: 300, LeftWater: 10}, {LeftResin: 350}, {OverResin: 150, OverWater: 50, LeftResin: 250}}},
		{[][]int{{0}, {0}, {0}}, []api.PotYield{{Resin: 550, LeftResin: 300, LeftWater: 10}, {LeftResin: 350}, {OverResin: 150, OverWater: 50, LeftResin: 250}}},
		{[][]int{{2}, {1}, nil}, []api.PotYield{{OverResin: 450, OverWater: 10, LeftResin: 400}, {Resin: 100, LeftResin: 250}, {Resin: 50, OverResin: 100, OverWater: 50, LeftResin: 250}}},
		{[][]int{nil, nil, {0}}, []api.PotYield{{Resin: 400, OverResin: 150, LeftResin: 300, LeftWater: 10}, {LeftResin: 350}, {OverResin: 150, OverWater: 50, LeftResin: 250}}},
	} {
		if yields, e := pot.Follow(run(), truth(), x.plan); !slices.Equal(yields, x.want) || e != api.OK {
			t.Errorf("%v: %v, %d, want %v", x.plan, yields, e, x.want)
		}
	}
	if yields, e := pot.Follow(steady(1, 1), api.PotTruth{Warm: []int{3}, Rain: []int{0}}, [][]int{nil}); len(yields) != 0 || e != api.OK {
		t.Errorf("no pots: %v, %d", yields, e)
	}
}

// one is a run of a pot with the size 100, into which what is warm and what rains comes as it is.
func one(has int, days ...[2]int) (api.PotRun, api.PotTruth) {
	r := api.PotRun{Hands: 1, Pots: []api.Pot{{Tag: "a", Size: 100, Has: span(has, has), Flow: 1, Catch: 1}}}
	x := api.PotTruth{Has: []int{has}}
	for _, day := range days {
		r.Days = append(r.Days, api.PotDay{Warm: span(0, day[0]), Rain: span(day[1], 200)})
		x.Warm, x.Rain = append(x.Warm, day[0]), append(x.Rain, day[1])
	}
	return r, x
}

func TestFollowOver(t *testing.T) {
	for i, x := range []struct {
		has  int
		days [][2]int
		plan [][]int
		want api.PotYield
	}{
		{100, [][2]int{{0, 0}}, [][]int{nil}, api.PotYield{LeftResin: 100}},
		{100, [][2]int{{1, 0}}, [][]int{nil}, api.PotYield{OverResin: 1, LeftResin: 100}},
		{100, [][2]int{{0, 1}}, [][]int{nil}, api.PotYield{OverWater: 1, LeftResin: 100}},
		{60, [][2]int{{0, 40}}, [][]int{nil}, api.PotYield{LeftResin: 60, LeftWater: 40}},
		{60, [][2]int{{0, 41}}, [][]int{nil}, api.PotYield{OverWater: 1, LeftResin: 60, LeftWater: 40}},
		{60, [][2]int{{1, 40}}, [][]int{nil}, api.PotYield{OverWater: 1, LeftResin: 61, LeftWater: 39}},
		// resin drives out water of the days before, and then resin
		{60, [][2]int{{0, 40}, {30, 0}}, [][]int{nil, nil}, api.PotYield{OverWater: 30, LeftResin: 90, LeftWater: 10}},
		{60, [][2]int{{0, 40}, {40, 0}}, [][]int{nil, nil}, api.PotYield{OverWater: 40, LeftResin: 100}},
		{60, [][2]int{{0, 40}, {45, 0}}, [][]int{nil, nil}, api.PotYield{OverWater: 40, OverResin: 5, LeftResin: 100}},
		{60, [][2]int{{0, 40}, {45, 7}}, [][]int{nil, nil}, api.PotYield{OverWater: 47, OverResin: 5, LeftResin: 100}},
		{0, [][2]int{{0, 150}, {0, 150}}, [][]int{nil, nil}, api.PotYield{OverWater: 200, LeftWater: 100}},
		// what ran over before it was emptied is lost, and what comes on the day is not carried away
		{60, [][2]int{{50, 5}, {20, 3}}, [][]int{nil, {0}}, api.PotYield{Resin: 100, OverResin: 10, OverWater: 5, LeftResin: 20, LeftWater: 3}},
		{60, [][2]int{{10, 5}, {20, 3}}, [][]int{nil, {0}}, api.PotYield{Resin: 70, Water: 5, LeftResin: 20, LeftWater: 3}},
		{60, [][2]int{{10, 5}, {20, 3}}, [][]int{{0}, nil}, api.PotYield{Resin: 60, LeftResin: 30, LeftWater: 8}},
		{60, [][2]int{{10, 5}, {20, 3}}, [][]int{{0}, {0}}, api.PotYield{Resin: 70, Water: 5, LeftResin: 20, LeftWater: 3}},
		{60, [][2]int{{300, 9}}, [][]int{{0}}, api.PotYield{Resin: 60, OverResin: 200, OverWater: 9, LeftResin: 100}},
	} {
		r, truth := one(x.has, x.days...)
		if yields, e := pot.Follow(r, truth, x.plan); !slices.Equal(yields, []api.PotYield{x.want}) || e != api.OK {
			t.Errorf("%d: %v, %d, want %v", i, yields, e, x.want)
		}
	}
}

// dropByDrop follows a pot in its own way: drops go one by one.
func dropByDrop(r api.PotRun, x api.PotTruth, plan [][]int, pot int) api.PotYield {
	y := api.PotYield{LeftResin: x.Has[pot]}
	for day := range r.Days {
		if daysOf(plan, pot)>>day&1 == 1 {
			y.Resin, y.LeftResin = y.Resin+y.LeftResin, 0
			y.Water, y.LeftWater = y.Water+y.LeftWater, 0
		}
		resin, water := comes(r, x, pot, day)
		y.LeftResin, y.LeftWater = y.LeftResin+resin, y.LeftWater+water
		for y.LeftResin+y.LeftWater > r.Pots[pot].Size {
			if y.LeftWater > 0 {
				y.LeftWater--
				y.OverWater++
			} else {
				y.LeftResin--
				y.OverResin++
			}
		}
	}
	return y
}

// P3.9

func TestFollowOfAnyTruth(t *testing.T) {
	d := &dice{3}
	for range 3000 {
		r := d.run(d.upTo(6), d.from(1, 8))
		x, plan := d.truth(r), d.plan(r)
		yields, e := pot.Follow(r, x, plan)
		kept, f := pot.Keeps(r, plan)
		if len(yields) != len(r.Pots) || e != api.OK || f != api.OK {
			t.Fatalf("%v, %v, %v: %v, %d, %d", r, x, plan, yields, e, f)
		}
		for i, y := range yields {
			if want := dropByDrop(r, x, plan, i); y != want {
				t.Fatalf("%v, %v, %v, the pot %d: %v, want %v", r, x, plan, i, y, want)
			}
			resin, water := x.Has[i], 0
			for day := range r.Days {
				more, wet := comes(r, x, i, day)
				resin, water = resin+more, water+wet
			}
			if resin != y.Resin+y.OverResin+y.LeftResin || water != y.Water+y.OverWater+y.LeftWater {
				t.Fatalf("%v, %v, %v, the pot %d: %v, of %d and %d", r, x, plan, i, y, resin, water)
			}
			if slices.Contains(kept, i) && y.OverResin+y.OverWater != 0 {
				t.Fatalf("%v, %v, %v, the pot %d is kept: %v", r, x, plan, i, y)
			}
		}
	}
}

// P3.4

func TestKeeps(t *testing.T) {
	for _, x := range []struct {
		plan [][]int
		want []int
	}{
		{[][]int{nil, {0}, {0}}, []int{0, 1}}, {[][]int{nil, nil, nil}, []int{1}}, {[][]int{nil, {0}, {2}}, []int{1, 2}},
		{[][]int{{0}, {0}, nil}, []int{1}}, {[][]int{{0}, {2}, {0}}, []int{0, 1}}, {[][]int{nil, {2}, {2}}, []int{1, 2}},
		{[][]int{{2}, {0}, nil}, []int{1}}, {[][]int{{1}, {1}, {1}}, []int{1}}, {[][]int{nil, {2}, nil}, []int{1}},
	} {
		if kept, e := pot.Keeps(run(), x.plan); !slices.Equal(kept, x.want) || e != api.OK {
			t.Errorf("%v: %v, %d, want %v", x.plan, kept, e, x.want)
		}
	}
	for size, want := range map[int][]int{349: nil, 350: {0}, 351: {0}} {
		r := steady(0, 1, size)
		r.Days[0] = api.PotDay{Warm: span(0, 100), Rain: span(0, 50)}
		r.Pots[0].Has, r.Pots[0].Catch = span(0, 200), 1
		if kept, e := pot.Keeps(r, [][]int{nil}); !slices.Equal(kept, want) || e != api.OK {
			t.Errorf("the size %d: %v, %d", size, kept, e)
		}
	}
	if kept, e := pot.Keeps(steady(1, 2), [][]int{nil, nil}); len(kept) != 0 || e != api.OK {
		t.Errorf("no pots: %v, %d", kept, e)
	}
}

func TestKeepsInAllTruths(t *testing.T) {
	d := &dice{4}
	kept, left := 0, 0
	for range 200 {
		r := d.run(2, d.from(1, 2))
		plan := d.plan(r)
		var want []int
		all := truths(r)
		for i := range r.Pots {
			runs := func(x api.PotTruth) bool { return runsOver(r, x, i, daysOf(plan, i)) < len(r.Days) }
			if !slices.ContainsFunc(all, runs) {
				want = append(want, i)
			}
		}
		if l, e := pot.Keeps(r, plan); !slices.Equal(l, want) || e != api.OK {
			t.Fatalf("%v, %v: %v, %d, want %v", r, plan, l, e, want)
		}
		kept, left = kept+len(want), left+2-len(want)
	}
	if kept < 50 || left < 50 {
		t.Errorf("only %d pots kept, %d left", kept, left)
	}
}
