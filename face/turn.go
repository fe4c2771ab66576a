package face

import (
	"cmp"
	"math/bits"

	"pinaster/api"
)

// turning is what counts of the years of a plan for those that follow.
type turning struct {
	year   int
	worked uint              // bit k: a column was worked k+1 years ago; only so many years as a window still holds
	used   [api.FaceCols]int // how often each column was worked
	spared [api.FaceCols]int // for how many years each column is not worked because of its neighbours
}

// Worth returns the value of a plan, and whether it is sound.
func Worth(t api.FaceTurn, plan []int) (value int, sound bool, e api.Errno) {
	if e := cmp.Or(CheckTurn(t), checkPlan(t, plan)); e != api.OK {
		return 0, false, e
	}
	var now turning
	for _, column := range plan {
		next, gain, ok := now.after(t, column)
		if !ok {
			return 0, false, api.OK
		}
		now = next
		value += gain
	}
	return value, true, api.OK
}

// Best returns the sound plan with the greatest value.
func Best(t api.FaceTurn, years int) (plan []int, value int, e api.Errno) {
	if e := cmp.Or(CheckTurn(t), checkRange(years, 1, api.FaceYears)); e != api.OK {
		return nil, 0, e
	}
	plan, value = bestPlan(t, years)
	return plan, value, api.OK
}

// after returns what is so after a year in which a column is worked, or none, and what that is worth, if it is sound.
func (now turning) after(t api.FaceTurn, column int) (next turning, gain int, sound bool) {
	next = now
	next.year++
	next.worked = now.worked << 1
	for c, years := range now.spared {
		next.spared[c] = max(0, years-1)
	}
	if column != api.FaceRest {
		if !now.canWork(t, column) {
			return turning{}, 0, false
		}
		gain = t.Values[now.used[column]]
		next.used[column]++
		next.worked |= 1
		next.spare(t, column)
	}
	next.worked &= 1<<(t.Window-1) - 1
	return next, gain, true
}

func (now turning) canWork(t api.FaceTurn, column int) bool {
	return now.used[column] < len(t.Values) && now.spared[column] == 0 && bits.OnesCount(now.worked) < t.Most
}

// spare spares the neighbours of a column that is worked.
func (now *turning) spare(t api.FaceTurn, column int) {
	for c := range t.Cols {
		if areNeighbours(t, c, column) {
			now.spared[c] = t.Near
		}
	}
}

func areNeighbours(t api.FaceTurn, a, b int) bool {
	apart := max(a-b, b-a)
	return apart == 1 || t.Cols >= 3 && apart == t.Cols-1
}

// bestPlan searches all sound plans, but each thing that can be so in a year only once. The first of the best is made of the first choice that is best, year by year.
func bestPlan(t api.FaceTurn, years int) (plan []int, value int) {
	known := map[turning]int{}
	var most func(now turning) int
	most = func(now turning) int {
		if now.year == years {
			return 0
		}
		if value, ok := known[now]; ok {
			return value
		}
		best := 0
		for column := api.FaceRest; column < t.Cols; column++ {
			if next, gain, ok := now.after(t, column); ok {
				best = max(best, gain+most(next))
			}
		}
		known[now] = best
		return best
	}
	var now turning
years:
	for range years {
		for column := api.FaceRest; column < t.Cols; column++ {
			if next, gain, ok := now.after(t, column); ok && gain+most(next) == most(now) {
				plan, value, now = append(plan, column), value+gain, next
				continue years
			}
		}
	}
	return plan, value
}
