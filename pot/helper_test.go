package pot_test

import (
	"math"
	"slices"
	"strconv"

	"pinaster/api"
	"pinaster/pot"
)

// odd are numbers that no pot and no day is, and not -1.
var odd = []int{-2, math.MinInt, math.MaxInt, math.MinInt32, math.MaxInt32}

func span(low, high int) api.Span { return api.Span{Low: low, High: high} }

// run is that of the chapter's examples.
func run() api.PotRun {
	return api.PotRun{
		Base: 100, Hands: 1,
		Days: []api.PotDay{
			{Warm: span(150, 200)},
			{Warm: span(200, 200)},
			{Warm: span(100, 250), Rain: span(0, 10)},
		},
		Pots: []api.Pot{
			{Tag: "p", X: 3, Y: 0, Size: 400, Has: span(100, 150), Flow: 2, Catch: 1},
			{Tag: "q", X: 0, Y: 4, Size: 400, Has: span(0, 0), Flow: 1, Catch: 0},
			{Tag: "s", X: 3, Y: 4, Size: 250, Has: span(50, 50), Flow: 1, Catch: 5},
		},
	}
}

// truth is that of the chapter's examples.
func truth() api.PotTruth {
	return api.PotTruth{Warm: []int{200, 200, 250}, Rain: []int{0, 0, 10}, Has: []int{150, 0, 50}}
}

// wrongRun is wrong in one thing that is easily left out.
func wrongRun() api.PotRun {
	r := run()
	r.Days[2].Rain.High = 2001
	return r
}

func cloneRun(r api.PotRun) api.PotRun {
	r.Pots, r.Days = slices.Clone(r.Pots), slices.Clone(r.Days)
	return r
}

// steady is a run of days on each of which ten drops come into each pot, and of empty pots of some sizes.
func steady(hands, days int, sizes ...int) api.PotRun {
	r := api.PotRun{Hands: hands, Days: slices.Repeat([]api.PotDay{{Warm: span(0, 10)}}, days)}
	for i, size := range sizes {
		r.Pots = append(r.Pots, api.Pot{Tag: "r" + strconv.Itoa(i), Size: size, Flow: 1})
	}
	return r
}

// dice throws the same numbers in each run of the tests.
type dice struct{ seed uint64 }

// upTo throws a number from 0 to most.
func (d *dice) upTo(most int) int {
	d.seed = d.seed*6364136223846793005 + 1442695040888963407
	return int(d.seed >> 33 % uint64(most+1))
}

func (d *dice) from(least, most int) int { return least + d.upTo(most-least) }

func (d *dice) span(least, most int) api.Span {
	low := d.from(least, most)
	return span(low, d.from(low, most))
}

// in throws a number that lies in a span.
func (d *dice) in(s api.Span) int { return d.from(s.Low, s.High) }

// run throws a valid run; its numbers are so small that pots run over on some days only, and that there are few truths.
func (d *dice) run(pots, days int) api.PotRun {
	r := api.PotRun{Base: d.upTo(4), Hands: d.upTo(3)}
	for range days {
		r.Days = append(r.Days, api.PotDay{Warm: d.span(2, 8), Rain: d.span(0, d.upTo(3))})
	}
	for i := range pots {
		p := api.Pot{Tag: "t" + strconv.Itoa(i), X: d.upTo(6), Y: d.upTo(6), Size: d.from(4, 40), Flow: d.upTo(3), Catch: d.upTo(3)}
		p.Has = d.span(0, d.upTo(p.Size))
		r.Pots = append(r.Pots, p)
	}
	return r
}

// truth throws what can truly be in a run.
func (d *dice) truth(r api.PotRun) api.PotTruth {
	var t api.PotTruth
	for _, day := range r.Days {
		t.Warm, t.Rain = append(t.Warm, d.in(day.Warm)), append(t.Rain, d.in(day.Rain))
	}
	for _, p := range r.Pots {
		t.Has = append(t.Has, d.in(p.Has))
	}
	return t
}

// plan throws a plan for a run.
func (d *dice) plan(r api.PotRun) [][]int {
	plan := make([][]int, len(r.Days))
	for day := range plan {
		for i := range r.Pots {
			if len(plan[day]) < r.Hands && d.upTo(1) == 0 {
				plan[day] = append(plan[day], i)
			}
		}
	}
	return plan
}

// narrower throws a run with spans that lie in those of a run, and with pots that are no smaller.
func (d *dice) narrower(r api.PotRun) api.PotRun {
	r = cloneRun(r)
	for i := range r.Days {
		r.Days[i].Warm = d.span(r.Days[i].Warm.Low, r.Days[i].Warm.High)
		r.Days[i].Rain = d.span(r.Days[i].Rain.Low, r.Days[i].Rain.High)
	}
	for i := range r.Pots {
		r.Pots[i].Has = d.span(r.Pots[i].Has.Low, r.Pots[i].Has.High)
		r.Pots[i].Size += d.upTo(6)
	}
	return r
}

// comes tells what comes into a pot on a day of a truth.
func comes(r api.PotRun, t api.PotTruth, pot, day int) (resin, water int) {
	if t.Warm[day] > r.Base {
		resin = (t.Warm[day] - r.Base) * r.Pots[pot].Flow
	}
	return resin, t.Rain[day] * r.Pots[pot].Catch
}

// runsOver tells in its own way on which day a pot runs over first in a truth, if it is emptied on some days (bits); the number of days if it does not.
func runsOver(r api.PotRun, t api.PotTruth, pot int, emptied uint) int {
	level := t.Has[pot]
	for day := range r.Days {
		if emptied>>day&1 == 1 {
			level = 0
		}
		resin, water := comes(r, t, pot, day)
		level += resin + water
		if level > r.Pots[pot].Size {
			return day
		}
	}
	return len(r.Days)
}

// worst is the truth of the greatest numbers, and best that of the least ones.
func worst(r api.PotRun) api.PotTruth { return ends(r, func(s api.Span) int { return s.High }) }

func best(r api.PotRun) api.PotTruth { return ends(r, func(s api.Span) int { return s.Low }) }

func ends(r api.PotRun, end func(api.Span) int) api.PotTruth {
	var t api.PotTruth
	for _, day := range r.Days {
		t.Warm, t.Rain = append(t.Warm, end(day.Warm)), append(t.Rain, end(day.Rain))
	}
	for _, p := range r.Pots {
		t.Has = append(t.Has, end(p.Has))
	}
	return t
}

// truths are all truths of a run.
func truths(r api.PotRun) []api.PotTruth {
	var all []api.PotTruth
	t := best(r)
	var fill func(i int)
	each := func(s api.Span, at *int, i int) {
		for n := s.Low; n <= s.High; n++ {
			*at = n
			fill(i + 1)
		}
	}
	fill = func(i int) {
		days := len(r.Days)
		switch {
		case i < days:
			each(r.Days[i].Warm, &t.Warm[i], i)
		case i < 2*days:
			each(r.Days[i-days].Rain, &t.Rain[i-days], i)
		case i < 2*days+len(r.Pots):
			each(r.Pots[i-2*days].Has, &t.Has[i-2*days], i)
		default:
			all = append(all, api.PotTruth{Warm: slices.Clone(t.Warm), Rain: slices.Clone(t.Rain), Has: slices.Clone(t.Has)})
		}
	}
	fill(0)
	return all
}

// daysOf tells on which days of a plan a pot is emptied (bits).
func daysOf(plan [][]int, pot int) uint {
	days := uint(0)
	for day, round := range plan {
		if slices.Contains(round, pot) {
			days |= 1 << day
		}
	}
	return days
}

// isPlan tells in its own way whether a list is a plan for a run.
func isPlan(r api.PotRun, plan [][]int) bool {
	if len(plan) != len(r.Days) {
		return false
	}
	for _, round := range plan {
		if len(round) > r.Hands || !slices.IsSorted(round) || len(slices.Compact(slices.Clone(round))) != len(round) {
			return false
		}
		for _, i := range round {
			if i < 0 || i >= len(r.Pots) {
				return false
			}
		}
	}
	return true
}

// answers are the errors that all functions return.
func answers(r api.PotRun, t api.PotTruth, plan [][]int, pots []int, i, from, to int) []api.Errno {
	var all [9]api.Errno
	all[0] = pot.Check(r)
	_, all[1] = pot.Level(r, i, from, to)
	_, all[2] = pot.Due(r, i, from)
	_, all[3] = pot.Follow(r, t, plan)
	_, all[4] = pot.Keeps(r, plan)
	_, _, all[5] = pot.Leave(r)
	_, all[6] = pot.Need(r, i, from, to)
	_, _, all[7] = pot.Short(r)
	_, _, all[8] = pot.Walk(r, pots)
	return all[:]
}
