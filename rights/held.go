package rights

import (
	"cmp"
	"iter"

	"pinaster/api"
)

// held is a right, on the days on which it is held.
type held struct{ api.Right }

// Held reports whether a right is held on a day of a year.
func Held(l []api.Right, right, year, day int) (bool, api.Errno) {
	e := cmp.Or(Check(l), checkFrom0(right, len(l)-1), checkFrom0(year, api.RightsLast), checkFrom0(day, lastDay))
	if e != api.OK {
		return false, e
	}
	number := dayOf(year, day)
	return held{l[right]}.isWithin(number, number), api.OK
}

// Days returns on how many days of a year a use is held on a plot.
func Days(l []api.Right, use, plot, year int) (int, api.Errno) {
	e := cmp.Or(Check(l), checkFrom0(use, api.RightsUses-1), checkFrom0(plot, api.RightsPlots-1), checkFrom0(year, api.RightsLast))
	if e != api.OK {
		return 0, e
	}
	days := map[int]bool{}
	for _, x := range l {
		if x.Use != use || !has(x.Plots, plot) {
			continue
		}
		for day := range (held{x}).days(year) {
			days[day] = true
		}
	}
	return len(days), api.OK
}

// dayOf returns the number of a day of a year.
func dayOf(year, day int) int { return api.RightsYear*year + day }

func (h held) isIn(year int) bool { return year%h.Every == h.Offset }

// days produces the numbers of the days of a year on which a right is held, increasing.
func (h held) days(year int) iter.Seq[int] {
	return func(yield func(int) bool) {
		if !h.isIn(year) {
			return
		}
		for number := dayOf(year, h.From); number <= dayOf(year, h.To); number++ {
			if !yield(number) {
				return
			}
		}
	}
}

// isWithin reports whether a right is held on a day with a number from one to another one.
func (h held) isWithin(from, to int) bool {
	for year := from / api.RightsYear; year <= to/api.RightsYear; year++ {
		if h.isIn(year) && dayOf(year, h.From) <= to && dayOf(year, h.To) >= from {
			return true
		}
	}
	return false
}
