package pot_test

import (
	"math"
	"slices"
	"strconv"
	"strings"
	"testing"

	"pinaster/api"
	"pinaster/pot"
)

// P3.1

// limit is one number of a run, and from where to where it may be.
type limit struct {
	name        string
	at          func(r *api.PotRun) *int
	least, most int
}

func limits() []limit {
	l := []limit{
		{"base", func(r *api.PotRun) *int { return &r.Base }, 0, 500},
		{"hands", func(r *api.PotRun) *int { return &r.Hands }, 0, 3},
	}
	for i, day := range run().Days {
		n := " of the day " + strconv.Itoa(i)
		l = append(l,
			limit{"warm low" + n, func(r *api.PotRun) *int { return &r.Days[i].Warm.Low }, 0, day.Warm.High},
			limit{"warm high" + n, func(r *api.PotRun) *int { return &r.Days[i].Warm.High }, day.Warm.Low, 500},
			limit{"rain low" + n, func(r *api.PotRun) *int { return &r.Days[i].Rain.Low }, 0, day.Rain.High},
			limit{"rain high" + n, func(r *api.PotRun) *int { return &r.Days[i].Rain.High }, day.Rain.Low, 2000},
		)
	}
	for i, p := range run().Pots {
		n := " of the pot " + strconv.Itoa(i)
		l = append(l,
			limit{"x" + n, func(r *api.PotRun) *int { return &r.Pots[i].X }, 0, 10000},
			limit{"y" + n, func(r *api.PotRun) *int { return &r.Pots[i].Y }, 0, 10000},
			limit{"size" + n, func(r *api.PotRun) *int { return &r.Pots[i].Size }, max(1, p.Has.High), 10000000},
			limit{"has low" + n, func(r *api.PotRun) *int { return &r.Pots[i].Has.Low }, 0, p.Has.High},
			limit{"has high" + n, func(r *api.PotRun) *int { return &r.Pots[i].Has.High }, p.Has.Low, p.Size},
			limit{"flow" + n, func(r *api.PotRun) *int { return &r.Pots[i].Flow }, 0, 1000},
			limit{"catch" + n, func(r *api.PotRun) *int { return &r.Pots[i].Catch }, 0, 1000},
		)
	}
	return l
}

func TestCheckLimits(t *testing.T) {
	if e := pot.Check(run()); e != api.OK {
		t.Errorf("the example: %d", e)
	}
	for _, l := range limits() {
		for n, want := range map[int]api.Errno{
			l.least: api.OK, l.most: api.OK,
			l.least - 1: api.ErrPots, l.most + 1: api.ErrPots, math.MinInt: api.ErrPots, math.MaxInt: api.ErrPots,
		} {
			r := run()
			*l.at(&r) = n
			if e := pot.Check(r); e != want {
				t.Errorf("%s %d: %d, want %d", l.name, n, e, want)
			}
		}
	}
}

func TestCheckHowMany(t *testing.T) {
	for days, want := range map[int]api.Errno{0: api.ErrPots, 1: api.OK, 8: api.OK, 9: api.ErrPots, 5000: api.ErrPots} {
		r := run()
		r.Days = make([]api.PotDay, days)
		if e := pot.Check(r); e != want {
			t.Errorf("%d days: %d", days, e)
		}
	}
	for pots, want := range map[int]api.Errno{0: api.OK, 1: api.OK, 6: api.OK, 7: api.ErrPots, 5000: api.ErrPots} {
		if e := pot.Check(steady(1, 2, slices.Repeat([]int{5}, pots)...)); e != want {
			t.Errorf("%d pots: %d", pots, e)
		}
	}
	for _, r := range []api.PotRun{{}, {Hands: 1, Days: []api.PotDay{}}} {
		if e := pot.Check(r); e != api.ErrPots {
			t.Errorf("no days: %d", e)
		}
	}
}

func TestCheckTags(t *testing.T) {
	full := steady(1, 1, 5, 6, 7, 8, 9, 10)
	for i := range full.Pots {
		for _, tag := range []string{"", "A", "1a", "-", "a b", "a\n", "a\u00e9", strings.Repeat("a", 17)} {
			r := cloneRun(full)
			r.Pots[i].Tag = tag
			if e := pot.Check(r); e != api.ErrPots {
				t.Errorf("the tag %q of the pot %d: %d", tag, i, e)
			}
		}
		r := cloneRun(full)
		r.Pots[i].Tag = "a-" + strings.Repeat("9", 14)
		if e := pot.Check(r); e != api.OK {
			t.Errorf("a tag of 16 bytes: %d", e)
		}
		for k := range i {
			r := cloneRun(full)
			r.Pots[i].Tag = r.Pots[k].Tag
			if e := pot.Check(r); e != api.ErrPots {
				t.Errorf("the pots %d and %d with one tag: %d", k, i, e)
			}
		}
	}
}

func TestErrorOfTheRunComesFirst(t *testing.T) {
	for _, r := range []api.PotRun{wrongRun(), {}} {
		for _, plan := range [][][]int{nil, {nil, nil, nil}, {{9}}} {
			for _, x := range []api.PotTruth{{}, truth()} {
				for _, n := range append(slices.Clone(odd), -1, 0, 1, 3) {
					for i, e := range answers(r, x, plan, []int{n, n}, n, n, n) {
						if e != api.ErrPots {
							t.Fatalf("the function %d with %v, %v and %d: %d", i, plan, x, n, e)
						}
					}
				}
			}
		}
	}
}

func TestErrorsOfPotsAndDays(t *testing.T) {
	for _, n := range append(slices.Clone(odd), -1, 3, 4, 1000) {
		for _, a := range [][3]int{{n, 0, 0}, {0, n, 0}, {0, 0, n}, {n, n, n}} {
			if need, e := pot.Need(run(), a[0], a[1], a[2]); need != 0 || e != api.ErrPot {
				t.Errorf("Need of %v: %d, %d", a, need, e)
			}
			if a == [3]int{0, -1, 0} {
				continue // not emptied
			}
			if level, e := pot.Level(run(), a[0], a[1], a[2]); level != span(0, 0) || e != api.ErrPot {
				t.Errorf("Level of %v: %v, %d", a, level, e)
			}
			if a[2] != 0 {
				continue // Due has no last day
			}
			if due, e := pot.Due(run(), a[0], a[1]); due != 0 || e != api.ErrPot {
				t.Errorf("Due of %v: %d, %d", a, due, e)
			}
		}
	}
	none := steady(1, 1)
	for i, e := range answers(none, api.PotTruth{Warm: []int{0}, Rain: []int{0}}, [][]int{nil}, nil, 0, 0, 0) {
		want := []api.Errno{0, api.ErrPot, api.ErrPot, 0, 0, 0, api.ErrPot, api.ErrNone, 0}[i]
		if e != want {
			t.Errorf("the function %d without pots: %d", i, e)
		}
	}
}

// wrongPlans are no plans for the run of the examples, if hands are as many as here.
func wrongPlans() map[int][][][]int {
	plans := map[int][][][]int{
		0: {{nil, {0}, nil}, {{2}, nil, nil}, {nil, nil, {1}}},
		1: {{{0, 1}, nil, nil}, {nil, nil, {1, 2}}, {nil, {1, 1}, nil}},
		2: {{{0, 1, 2}, nil, nil}, {nil, nil, {1, 0}}, {nil, {1, 1}, nil}, {nil, nil, {0, 3}}, {{-1, 0}, nil, nil}},
		3: {{{0, 2, 1}, nil, nil}, {nil, nil, {2, 1}}, {nil, {0, 1, 1}, nil}, {{0, 0, 1}, nil, nil}, {nil, {0, 1, 2, 3}, nil}},
	}
	for hands := range plans {
		plans[hands] = append(plans[hands], nil, [][]int{}, [][]int{nil, nil}, make([][]int, 4), make([][]int, 5000))
		for _, n := range append(slices.Clone(odd), -1, 3) {
			plans[hands] = append(plans[hands], [][]int{{n}, nil, nil}, [][]int{nil, {n}, nil}, [][]int{nil, nil, {n}})
		}
		plans[hands] = append(plans[hands], [][]int{nil, nil, make([]int, 5000)})
	}
	return plans
}

func TestWrongPlans(t *testing.T) {
	for hands, plans := range wrongPlans() {
		r := run()
		r.Hands = hands
		for _, plan := range plans {
			if kept, e := pot.Keeps(r, plan); len(kept) != 0 || e != api.ErrPotPlan {
				t.Errorf("Keeps, %d hands, %v: %v, %d", hands, plan, kept, e)
			}
			for _, x := range []api.PotTruth{truth(), {}} {
				if yields, e := pot.Follow(r, x, plan); len(yields) != 0 || e != api.ErrPotPlan {
					t.Errorf("Follow, %d hands, %v: %v, %d", hands, plan, yields, e)
				}
			}
		}
	}
	for hands, plan := range [][][]int{{nil, {}, nil}, {{0}, {2}, {0}}, {{0, 2}, {1, 2}, {0}}, {{0, 1, 2}, nil, {0, 1, 2}}} {
		r := run()
		r.Hands = hands
		_, e1 := pot.Keeps(r, plan)
		_, e2 := pot.Follow(r, truth(), plan)
		if e1 != api.OK || e2 != api.OK {
			t.Errorf("%d hands, %v: %d, %d", hands, plan, e1, e2)
		}
	}
}

func TestWrongTruths(t *testing.T) {
	plan := make([][]int, 3)
	ask := func(x api.PotTruth, want api.Errno) {
		t.Helper()
		yields, e := pot.Follow(run(), x, plan)
		if e != want || (len(yields) == 0) != (want != api.OK) {
			t.Errorf("%v: %v, %d, want %d", x, yields, e, want)
		}
	}
	ask(truth(), api.OK)
	ask(api.PotTruth{}, api.ErrPotTruth)
	lists := []func(x *api.PotTruth) *[]int{
		func(x *api.PotTruth) *[]int { return &x.Warm },
		func(x *api.PotTruth) *[]int { return &x.Rain },
		func(x *api.PotTruth) *[]int { return &x.Has },
	}
	r := run()
	spans := [][]api.Span{
		{r.Days[0].Warm, r.Days[1].Warm, r.Days[2].Warm},
		{r.Days[0].Rain, r.Days[1].Rain, r.Days[2].Rain},
		{r.Pots[0].Has, r.Pots[1].Has, r.Pots[2].Has},
	}
	for i, at := range lists {
		for _, size := range []int{0, 2, 4, 5000} {
			x := truth()
			list := slices.Grow(*at(&x), size)
			*at(&x) = list[:size]
			ask(x, api.ErrPotTruth)
		}
		for k, s := range spans[i] {
			for n, want := range map[int]api.Errno{s.Low: 0, s.High: 0, s.Low - 1: api.ErrPotTruth, s.High + 1: api.ErrPotTruth, math.MinInt: api.ErrPotTruth, math.MaxInt: api.ErrPotTruth} {
				x := truth()
				(*at(&x))[k] = n
				ask(x, want)
			}
		}
	}
}
