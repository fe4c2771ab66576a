// Package rosin grades rosin: which grades tests allow, which further test settles them, and how batches are blended such that a blend surely has a grade, for the least cost.
package rosin

import (
	"slices"

	"pinaster/api"
	"pinaster/stand"
)

// Check checks grades.
func Check(l []api.RosinGrade) api.Errno {
	if !isFrom(len(l), 1, api.RosinGrades) {
		return api.ErrRosin
	}
	dearest := api.RosinPrice
	for i, g := range l {
		if !isGrade(g) || g.Price > dearest || isNamed(l[:i], g.Name) {
			return api.ErrRosin
		}
		dearest = g.Price
	}
	return api.OK
}

func isGrade(g api.RosinGrade) bool {
	return stand.IsWord(g.Name) && asksOf(g).isValid() && g.Price >= 0
}

func isNamed(l []api.RosinGrade, name string) bool {
	return slices.ContainsFunc(l, func(g api.RosinGrade) bool { return g.Name == name })
}

func checkQuality(q api.Quality) api.Errno {
	if !qualityOf(q).isIn(all()) {
		return api.ErrRange
	}
	return api.OK
}

// checkTests checks tests, and that they do not clash.
func checkTests(t []api.RosinTest) api.Errno {
	if len(t) > api.RosinTests {
		return api.ErrRosinTest
	}
	for _, x := range t {
		if !isFrom(x.Part, 0, parts-1) || !isFrom(x.Read, 0, mostRead) || !isFrom(x.Wrong, 0, api.RosinWrong) {
			return api.ErrRosinTest
		}
	}
	if told(t).isEmpty() {
		return api.ErrRosinClash
	}
	return api.OK
}

func checkWrong(wrong int) api.Errno { return checkRange(wrong, 0, api.RosinWrong) }

func checkGrade(l []api.RosinGrade, grade int) api.Errno { return checkRange(grade, 0, len(l)-1) }

func checkMany(many int) api.Errno { return checkRange(many, 1, api.RosinDrums) }

func checkBatches(b []api.RosinBatch) api.Errno {
	if !isFrom(len(b), 1, api.RosinBatches) {
		return api.ErrRosinBatch
	}
	for _, x := range b {
		if !spreadOf(x.Quality).isValid() || !isFrom(x.Drums, 0, api.RosinDrums) || !isFrom(x.Cost, 0, api.RosinPrice) {
			return api.ErrRosinBatch
		}
	}
	return api.OK
}

// checkBlend checks batches, and drums of them.
func checkBlend(b []api.RosinBatch, drums []int) api.Errno {
	if e := checkBatches(b); e != api.OK {
		return e
	}
	if len(drums) != len(b) {
		return api.ErrRosinBatch
	}
	many := 0
	for i, n := range drums {
		if !isFrom(n, 0, b[i].Drums) {
			return api.ErrRosinBatch
		}
		many += n
	}
	if !isFrom(many, 1, api.RosinDrums) {
		return api.ErrRosinBatch
	}
	return api.OK
}

func checkRange(n, least, most int) api.Errno {
	if !isFrom(n, least, most) {
		return api.ErrRange
	}
	return api.OK
}

func isFrom(n, least, most int) bool { return n >= least && n <= most }
