package face_test

import (
	"slices"
	"testing"

	"pinaster/api"
	"pinaster/face"
)

// P2.6

func TestWorth(t *testing.T) {
	with := func(cols, near, window, most int, values ...int) api.FaceTurn {
		return api.FaceTurn{Cols: cols, Near: near, Window: window, Most: most, Values: values}
	}
	for i, x := range []struct {
		t     api.FaceTurn
		plan  []int
		value int
		sound bool
	}{
		{turn(), []int{0, 0, -1, 1, 1}, 32, true}, {turn(), []int{0, 1}, 0, false}, {turn(), []int{-1}, 0, true}, {turn(), []int{2}, 10, true},
		// as often as there are values
		{with(1, 0, 1, 1, 7, 5, 3), []int{0, 0, 0}, 15, true}, {with(1, 0, 1, 1, 7, 5, 3), []int{0, 0, 0, 0}, 0, false},
		{with(1, 0, 1, 1, 7), []int{0, -1, 0}, 0, false}, {with(1, 0, 1, 1, 7, 5), []int{0, -1, 0}, 12, true},
		{with(3, 0, 1, 1, 1, 10, 100), []int{2, 1, 2, 0, 2, 1}, 1 + 1 + 10 + 1 + 100 + 10, true},
		// neighbours: of one column, of two, of three, of four
		{with(1, 3, 1, 1, 7, 5, 3), []int{0, 0, 0}, 15, true},
		{with(2, 1, 1, 1, 7, 5), []int{0, 1}, 0, false}, {with(2, 1, 1, 1, 7, 5), []int{1, 0}, 0, false}, {with(2, 1, 1, 1, 7, 5), []int{0, -1, 1}, 14, true}, {with(2, 1, 1, 1, 7, 5), []int{0, 0, -1, 1}, 19, true},
		{with(3, 1, 1, 1, 7, 5), []int{0, 2}, 0, false}, {with(3, 1, 1, 1, 7, 5), []int{2, 0}, 0, false}, {with(3, 1, 1, 1, 7, 5), []int{2, 1}, 0, false}, {with(3, 1, 1, 1, 7, 5), []int{2, -1, 1}, 14, true},
		{with(4, 1, 1, 1, 7, 5), []int{0, 2}, 14, true}, {with(4, 1, 1, 1, 7, 5), []int{1, 3}, 14, true}, {with(4, 1, 1, 1, 7, 5), []int{3, 1, 3}, 19, true},
		{with(4, 1, 1, 1, 7, 5), []int{0, 3}, 0, false}, {with(4, 1, 1, 1, 7, 5), []int{3, 0}, 0, false}, {with(4, 1, 1, 1, 7, 5), []int{1, 2}, 0, false}, {with(4, 1, 1, 1, 7, 5), []int{3, 2}, 0, false},
		// for as many years as are spared
		{with(2, 0, 1, 1, 7, 5), []int{0, 1, 0, 1}, 24, true},
		{with(2, 2, 1, 1, 7, 5), []int{0, -1, 1}, 0, false}, {with(2, 2, 1, 1, 7, 5), []int{0, -1, -1, 1}, 14, true}, {with(2, 2, 1, 1, 7, 5), []int{0, 0, -1, 1}, 0, false}, {with(2, 2, 1, 1, 7, 5), []int{0, 0, -1, -1, 1}, 19, true},
		{with(2, 3, 1, 1, 7, 5), []int{0, -1, -1, 1}, 0, false}, {with(2, 3, 1, 1, 7, 5), []int{0, -1, -1, -1, 1}, 14, true},
		{with(4, 3, 1, 1, 7, 5), []int{0, 2, -1, 3}, 0, false}, {with(4, 3, 1, 1, 7, 5), []int{0, 2, 0, 2}, 24, true},
		// years of a window
		{with(1, 0, 1, 0, 7), []int{-1, -1}, 0, true}, {with(1, 0, 1, 0, 7), []int{0}, 0, false},
		{with(1, 0, 2, 1, 7, 5, 3), []int{0, 0}, 0, false}, {with(1, 0, 2, 1, 7, 5, 3), []int{0, -1, 0, -1, 0}, 15, true},
		{with(1, 0, 3, 1, 7, 5, 3), []int{0, -1, 0}, 0, false}, {with(1, 0, 3, 1, 7, 5, 3), []int{0, -1, -1, 0}, 12, true},
		{with(1, 0, 4, 1, 7, 5, 3), []int{0, -1, -1, 0}, 0, false}, {with(1, 0, 4, 1, 7, 5, 3), []int{0, -1, -1, -1, 0}, 12, true},
		{with(1, 0, 4, 2, 7, 5, 3), []int{0, 0, -1, 0}, 0, false}, {with(1, 0, 4, 2, 7, 5, 3), []int{0, 0, -1, -1, 0}, 15, true},
		{with(1, 0, 4, 1, 7, 5, 3), []int{0, 0}, 0, false}, // fewer years than a window
		{with(2, 0, 3, 2, 7, 5, 3), []int{0, 1, 0}, 0, false}, {with(2, 0, 3, 2, 7, 5, 3), []int{0, 1, -1, 0}, 19, true}, {with(2, 0, 3, 3, 7, 5, 3), []int{0, 1, 0}, 19, true},
		{with(4, 0, 4, 4, 100000, 100000, 100000), []int{0, 1, 2, 3, 0, 1, 2, 3, 0, 1, 2, 3}, 1200000, true},
	} {
		if value, sound, e := face.Worth(x.t, x.plan); value != x.value || sound != x.sound || e != api.OK {
			t.Errorf("%d: %d, %v, %d, want %d, %v", i, value, sound, e, x.value, x.sound)
		}
	}
}

func TestWrongPlans(t *testing.T) {
	wrong := [][]int{nil, {}, make([]int, 13), make([]int, 5000), {3}, {0, 3}, {3, 0}, {-2}, {-1, -2}}
	for _, n := range odd {
		wrong = append(wrong, []int{n}, []int{0, n}, []int{n, -1})
	}
	for _, plan := range wrong {
		if value, sound, e := face.Worth(turn(), plan); value != 0 || sound || e != api.ErrFacePlan {
			t.Errorf("%v: %d, %v, %d", plan, value, sound, e)
		}
	}
	if value, sound, e := face.Worth(turn(), slices.Repeat([]int{-1}, 12)); value != 0 || !sound || e != api.OK {
		t.Errorf("12 years of rest: %d, %v, %d", value, sound, e)
	}
	few, many := turn(), turn()
	few.Cols, many.Cols = 1, 4
	if _, _, e := face.Worth(few, []int{1}); e != api.ErrFacePlan {
		t.Errorf("the column 1 of one: %d", e)
	}
	if value, sound, e := face.Worth(many, []int{3}); value != 10 || !sound || e != api.OK {
		t.Errorf("the column 3 of four: %d, %v, %d", value, sound, e)
	}
}

// worthOf tells in its own way what a plan is worth, straight from the definition.
func worthOf(t api.FaceTurn, plan []int) (value int, sound bool) {
	neighbours := func(a, b int) bool {
		if t.Cols >= 3 && (a == 0 && b == t.Cols-1 || b == 0 && a == t.Cols-1) {
			return true
		}
		return a-b == 1 || b-a == 1
	}
	times := map[int]int{}
	for y, column := range plan {
		for more := 0; more < t.Window && y+more < len(plan); more++ {
			worked := 0
			for _, c := range plan[y : y+more+1] {
				if c != api.FaceRest {
					worked++
				}
			}
			if worked > t.Most {
				return 0, false
			}
		}
		if column == api.FaceRest {
			continue
		}
		for after := 1; after <= t.Near && y+after < len(plan); after++ {
			if c := plan[y+after]; c != api.FaceRest && neighbours(c, column) {
				return 0, false
			}
		}
		if times[column] == len(t.Values) {
			return 0, false
		}
		value += t.Values[times[column]]
		times[column]++
	}
	return value, true
}

// bestOf tries all plans, the first one first.
func bestOf(t api.FaceTurn, years int) (best []int, most int) {
	most = -1
	plan := make([]int, years)
	var fill func(year int)
	fill = func(year int) {
		if year == years {
			if value, sound := worthOf(t, plan); sound && value > most {
				best, most = slices.Clone(plan), value
			}
			return
		}
		for column := api.FaceRest; column < t.Cols; column++ {
			plan[year] = column
			fill(year + 1)
		}
	}
	fill(0)
	return best, most
}

func TestWorthOfAnyPlan(t *testing.T) {
	d := &dice{8}
	good := 0
	for range 20000 {
		x := d.turn()
		plan := make([]int, d.from(1, 12))
		for y := range plan {
			if d.upTo(1) == 0 {
				plan[y] = api.FaceRest
			} else {
				plan[y] = d.upTo(x.Cols - 1)
			}
		}
		want, is := worthOf(x, plan)
		value, sound, e := face.Worth(x, plan)
		if value != want || sound != is || e != api.OK {
			t.Fatalf("%v, %v: %d, %v, %d, want %d, %v", x, plan, value, sound, e, want, is)
		}
		if is {
			good++
		}
	}
	if good < 2000 {
		t.Errorf("only %d plans are sound", good)
	}
}

func TestBest(t *testing.T) {
	four, free, never, poor, late := turn(), turn(), turn(), turn(), turn()
	four.Cols = 4
	free.Near, free.Most = 0, 3
	never.Most = 0
	poor.Values = []int{0, 0, 0}
	late.Cols, late.Values, late.Most = 1, []int{0, 9}, 3
	for i, x := range []struct {
		t     api.FaceTurn
		years int
		want  []int
		value int
	}{
		{turn(), 5, []int{0, 0, -1, 1, 1}, 32}, {turn(), 1, []int{0}, 10}, {turn(), 2, []int{0, 0}, 16}, {turn(), 3, []int{0, -1, 1}, 20},
		{four, 2, []int{0, 2}, 20}, {free, 3, []int{0, 1, 2}, 30}, {free, 4, []int{0, 0, 1, 2}, 36},
		{never, 4, []int{-1, -1, -1, -1}, 0}, {poor, 3, []int{-1, -1, -1}, 0},
		{late, 1, []int{-1}, 0}, {late, 2, []int{0, 0}, 9}, {late, 3, []int{-1, 0, 0}, 9},
	} {
		if plan, value, e := face.Best(x.t, x.years); !slices.Equal(plan, x.want) || value != x.value || e != api.OK {
			t.Errorf("%d: %v, %d, %d, want %v, %d", i, plan, value, e, x.want, x.value)
		}
	}
	for _, years := range append(slices.Clone(odd), -1, 0, 13) {
		if plan, value, e := face.Best(turn(), years); len(plan) != 0 || value != 0 || e != api.ErrRange {
			t.Errorf("%d years: %v, %d, %d", years, plan, value, e)
		}
	}
}

func TestBestAgainstAllPlans(t *testing.T) {
	d := &dice{9}
	for round := range 400 {
		x := d.turn()
		if round%2 == 0 {
			x.Most = x.Window
		}
		years := d.from(1, 5)
		want, most := bestOf(x, years)
		if plan, value, e := face.Best(x, years); !slices.Equal(plan, want) || value != most || e != api.OK {
			t.Fatalf("%v for %d years: %v, %d, %d, want %v, %d", x, years, plan, value, e, want, most)
		}
	}
	for range 6 {
		x := d.turn()
		x.Cols = d.from(1, 2)
		want, most := bestOf(x, 9)
		if plan, value, e := face.Best(x, 9); !slices.Equal(plan, want) || value != most || e != api.OK {
			t.Fatalf("%v for 9 years: %v, %d, %d, want %v, %d", x, plan, value, e, want, most)
		}
	}
}

// P2.11

func TestBestOfMore(t *testing.T) {
	d := &dice{10}
	for range 60 {
		x := d.turn()
		for i := range x.Values {
			x.Values[i] = d.upTo(100000)
		}
		last := 0
		for years := 1; years <= 12; years++ {
			plan, value, e := face.Best(x, years)
			worth, sound := worthOf(x, plan)
			if e != api.OK || len(plan) != years || !sound || worth != value || value < last {
				t.Fatalf("%v for %d years: %v, %d, %d, before: %d", x, years, plan, value, e, last)
			}
			last = value
			near := x
			for near.Near > 0 {
				near.Near--
				if _, more, e := face.Best(near, years); more < value || e != api.OK {
					t.Fatalf("%v for %d years: %d, with fewer years %d", x, years, value, more)
				}
			}
		}
	}
}
