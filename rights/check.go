// Package rights keeps the uses of a forest apart: when rights are held, which ones cross, and when first, in which years they can be held so that none do, and in which years plots are felled.
package rights

import (
	"slices"

	"pinaster/api"
	"pinaster/stand"
)

const (
	allUses  = 1<<api.RightsUses - 1
	allPlots = 1<<api.RightsPlots - 1
	lastDay  = api.RightsYear - 1
)

// CheckRule checks a rule.
func CheckRule(r api.RightsRule) api.Errno {
	if !areBars(r.Bars) || !isFrom(r.Rest, 0, api.RightsRest) {
		return api.ErrRightsRule
	}
	return api.OK
}

// Check checks rights.
func Check(l []api.Right) api.Errno {
	if len(l) > api.RightsMany {
		return api.ErrRights
	}
	for i, x := range l {
		if !isRight(x) || isNamed(l[:i], x.Name) {
			return api.ErrRights
		}
	}
	return api.OK
}

// areBars reports whether sets of uses are ones of uses that do not bear each other.
func areBars(bars [api.RightsUses]int) bool {
	for use, set := range bars {
		if !isFrom(set, 0, allUses) {
			return false
		}
		for other := range bars {
			if has(set, other) != has(bars[other], use) {
				return false
			}
		}
	}
	return true
}

func isRight(x api.Right) bool {
	return stand.IsWord(x.Name) && isFrom(x.Use, 0, api.RightsUses-1) && isFrom(x.Plots, 1, allPlots) &&
		isFrom(x.From, 0, x.To) && x.To <= lastDay &&
		isFrom(x.Every, 1, api.RightsEvery) && isFrom(x.Offset, 0, x.Every-1)
}

func isNamed(l []api.Right, name string) bool {
	return slices.ContainsFunc(l, func(x api.Right) bool { return x.Name == name })
}

// checkFrom0 checks a right, a use, a plot, a year or a day.
func checkFrom0(n, most int) api.Errno {
	if !isFrom(n, 0, most) {
		return api.ErrRight
	}
	return api.OK
}

// checkTwo checks that there are two rights, and that they are different.
func checkTwo(l []api.Right, a, b int) api.Errno {
	if !isFrom(a, 0, len(l)-1) || !isFrom(b, 0, len(l)-1) || a == b {
		return api.ErrRight
	}
	return api.OK
}

func checkPlots(l []api.FellPlot) api.Errno {
	if len(l) > api.FellPlots {
		return api.ErrFell
	}
	for _, x := range l {
		if !isFrom(x.Age, 0, x.Ages.High) || !isFrom(x.Ages.Low, 0, x.Ages.High) || x.Ages.High > api.FellAge {
			return api.ErrFell
		}
	}
	return api.OK
}

func checkMany(many int) api.Errno {
	if !isFrom(many, 0, api.FellMany) {
		return api.ErrRange
	}
	return api.OK
}

func isFrom(n, least, most int) bool { return n >= least && n <= most }

func has(set, element int) bool { return set>>element&1 == 1 }
