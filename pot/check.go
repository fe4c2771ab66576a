// Package pot looks after the pots under the faces: levels, needs, rounds, pots that must be left, and walks.
package pot

import (
	"slices"

	"pinaster/api"
	"pinaster/stand"
)

// mostBase is the greatest base, in tenths of a degree; api does not name it.
const mostBase = 500

// Check checks a run.
func Check(r api.PotRun) api.Errno {
	if len(r.Pots) > api.PotMany || !isFrom(len(r.Days), 1, api.PotDays) ||
		!isFrom(r.Base, 0, mostBase) || !isFrom(r.Hands, 0, api.PotHands) {
		return api.ErrPots
	}
	for i, p := range r.Pots {
		if !isPot(p) || hasTag(r.Pots[:i], p.Tag) {
			return api.ErrPots
		}
	}
	for _, d := range r.Days {
		if !isSpan(d.Warm, 0, api.PotWarm) || !isSpan(d.Rain, 0, api.PotRain) {
			return api.ErrPots
		}
	}
	return api.OK
}

func isPot(p api.Pot) bool {
	return stand.IsWord(p.Tag) && isFrom(p.X, 0, api.PotPlace) && isFrom(p.Y, 0, api.PotPlace) &&
		isFrom(p.Size, 1, api.PotSize) && isSpan(p.Has, 0, p.Size) &&
		isFrom(p.Flow, 0, api.PotFlow) && isFrom(p.Catch, 0, api.PotFlow)
}

func hasTag(pots []api.Pot, tag string) bool {
	return slices.ContainsFunc(pots, func(p api.Pot) bool { return p.Tag == tag })
}

// checkPot checks a pot, a day, and one that is not after it and at least some day.
func checkPot(r api.PotRun, pot, least, from, to int) api.Errno {
	if !isFrom(pot, 0, len(r.Pots)-1) || !isFrom(to, 0, len(r.Days)-1) || !isFrom(from, least, to) {
		return api.ErrPot
	}
	return api.OK
}

func checkPlan(r api.PotRun, plan [][]int) api.Errno {
	if len(plan) != len(r.Days) {
		return api.ErrPotPlan
	}
	for _, round := range plan {
		if len(round) > r.Hands || !isIncreasing(round, len(r.Pots)-1) {
			return api.ErrPotPlan
		}
	}
	return api.OK
}

func checkTruth(r api.PotRun, t api.PotTruth) api.Errno {
	if len(t.Warm) != len(r.Days) || len(t.Rain) != len(r.Days) || len(t.Has) != len(r.Pots) {
		return api.ErrPotTruth
	}
	for i, d := range r.Days {
		if !isIn(t.Warm[i], d.Warm) || !isIn(t.Rain[i], d.Rain) {
			return api.ErrPotTruth
		}
	}
	for i, p := range r.Pots {
		if !isIn(t.Has[i], p.Has) {
			return api.ErrPotTruth
		}
	}
	return api.OK
}

func checkWalk(r api.PotRun, pots []int) api.Errno {
	if len(pots) > len(r.Pots) || !isIncreasing(slices.Sorted(slices.Values(pots)), len(r.Pots)-1) {
		return api.ErrPotPlan
	}
	return api.OK
}

func isFrom(n, least, most int) bool { return n >= least && n <= most }

func isIn(n int, s api.Span) bool { return isFrom(n, s.Low, s.High) }

func isSpan(s api.Span, least, most int) bool {
	return s.Low >= least && s.High <= most && s.Low <= s.High
}

// isIncreasing reports whether indices increase strictly, up to the last one.
func isIncreasing(indices []int, last int) bool {
	least := 0
	for _, i := range indices {
		if !isFrom(i, least, last) {
			return false
		}
		least = i + 1
	}
	return true
}
