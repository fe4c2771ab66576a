package pot

import (
	"cmp"
	"iter"
	"slices"

	"pinaster/api"
)

// emptied tells of each pot on which day it was emptied last.
type emptied [api.PotMany]int

// Leave returns the fewest pots that must be left, and a plan that keeps all others.
func Leave(r api.PotRun) (left []int, plan [][]int, e api.Errno) {
	if e := Check(r); e != api.OK {
		return nil, nil, e
	}
	left, plan = fewest(r)
	return left, plan, api.OK
}

// Need returns how often a pot must be emptied on some days.
func Need(r api.PotRun, pot, from, to int) (int, api.Errno) {
	if e := cmp.Or(Check(r), checkPot(r, pot, 0, from, to)); e != api.OK {
		return 0, e
	}
	return hang(r, pot).need(from, to), api.OK
}

// Short returns the first days for which there are too few hands.
func Short(r api.PotRun) (from, to int, e api.Errno) {
	if e := Check(r); e != api.OK {
		return 0, 0, e
	}
	for from := range len(r.Days) {
		for to := from; to < len(r.Days); to++ {
			needs := 0
			for pot := range r.Pots {
				needs += hang(r, pot).need(from, to)
			}
			if needs > r.Hands*(to-from+1) {
				return from, to, api.OK
			}
		}
	}
	return 0, 0, api.ErrNone
}

// need empties a pot as late as it can be, each time: one that was emptied later is not due earlier.
func (h hung) need(from, to int) int {
	last, times := from, 0
	if from == 0 {
		last = never
	}
	for due := h.due(last); due <= to; due = h.due(last) {
		if due == last {
			return to - from + 2
		}
		last = due
		times++
	}
	return times
}

// fewest tries to leave fewer pots first, and of as many the first ones first.
func fewest(r api.PotRun) (left []int, plan [][]int) {
	var pots []int
	for pot := range r.Pots {
		pots = append(pots, pot)
	}
	for many := range len(pots) {
		for left := range choices(pots, many) {
			if plan, ok := keepAll(r, without(pots, left)); ok {
				return left, plan
			}
		}
	}
	return pots, make([][]int, len(r.Days))
}

// choices produces all sets of so many pots, of pots that increase, in the order of their lists.
func choices(pots []int, many int) iter.Seq[[]int] {
	return func(yield func([]int) bool) {
		var choose func(chosen, rest []int) bool
		choose = func(chosen, rest []int) bool {
			if len(chosen) == many {
				return yield(slices.Clone(chosen))
			}
			for i, pot := range rest {
				if !choose(append(chosen, pot), rest[i+1:]) {
					return false
				}
			}
			return true
		}
		choose(nil, pots)
	}
}

func without(pots, left []int) []int {
	return slices.DeleteFunc(slices.Clone(pots), func(pot int) bool { return slices.Contains(left, pot) })
}

// keepAll searches a plan that keeps some pots. Only full rounds are tried, because whoever empties more pots on a day keeps no fewer. Then the greatest of the last days tells which day it is, unless nothing can be emptied; so what was tried once need not be tried again.
func keepAll(r api.PotRun, pots []int) (plan [][]int, ok bool) {
	plan = make([][]int, len(r.Days))
	tried := map[emptied]bool{}
	var search func(day int, last emptied) bool
	search = func(day int, last emptied) (found bool) {
		if day == len(plan) {
			return true
		}
	rounds:
		for choice := range choices(pots, min(r.Hands, len(pots))) {
			next := last.after(choice, day)
			if next != last && tried[next] {
				continue rounds
			}
			tried[next] = true
			for _, pot := range pots {
				if hang(r, pot).canRunOver(next[pot], day) {
					continue rounds
				}
			}
			if search(day+1, next) {
				plan[day], found = choice, true
				break rounds
			}
		}
		return found
	}
	return plan, search(0, untouched())
}

func untouched() emptied {
	var last emptied
	for pot := range last {
		last[pot] = never
	}
	return last
}

func (last emptied) after(round []int, day int) emptied {
	for _, pot := range round {
		last[pot] = day
	}
	return last
}
