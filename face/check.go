// Package face knows where faces are cut on a tree, how high they get, and when a tree rests.
package face

import "pinaster/api"

// Check checks a tree.
func Check(t api.FaceTree) api.Errno {
	if !isFrom(t.Girth, 1, api.FaceGirth) || !isFrom(t.Width, 1, t.Girth) || !isFrom(t.Bar, 0, t.Girth) ||
		!isFrom(t.Share, 0, api.FaceShare) || len(t.Scars) > api.FaceScars {
		return api.ErrFaceTree
	}
	for _, s := range t.Scars {
		if !isFrom(s.From, 0, t.Girth-1) || !isFrom(s.Width, 1, t.Girth) {
			return api.ErrFaceTree
		}
	}
	return api.OK
}

// CheckRun checks a run.
func CheckRun(r api.FaceRun) api.Errno {
	if !isFrom(r.Rise.Low, 1, r.Rise.High) || r.Rise.High > api.FaceRise || !isFrom(r.Reach, 0, api.FaceReach) ||
		!isFrom(r.Every, 1, api.FaceEvery) || !isFrom(len(r.Weeks), 1, api.FaceWeeks) ||
		!areFrom(r.Weeks, api.FaceOpen, api.FaceStops) {
		return api.ErrFaceRun
	}
	return api.OK
}

// CheckTurn checks a turn.
func CheckTurn(t api.FaceTurn) api.Errno {
	if !isFrom(t.Cols, 1, api.FaceCols) || !isFrom(t.Near, 0, api.FaceNear) ||
		!isFrom(t.Window, 1, api.FaceWindow) || !isFrom(t.Most, 0, t.Window) ||
		!isFrom(len(t.Values), 1, api.FacePanels) || !areFrom(t.Values, 0, api.FaceValue) {
		return api.ErrFaceTurn
	}
	return api.OK
}

func checkLayout(t api.FaceTree, layout []int) api.Errno {
	least := 0
	for _, start := range layout {
		if !isFrom(start, least, t.Girth-1) {
			return api.ErrFaceLayout
		}
		least = start + 1
	}
	return api.OK
}

func checkTruth(r api.FaceRun, stopped []bool, rises []int) api.Errno {
	if len(stopped) != len(r.Weeks) || len(rises) != len(r.Weeks) || !areFrom(rises, r.Rise.Low, r.Rise.High) {
		return api.ErrFaceTruth
	}
	for i, week := range r.Weeks {
		if stopped[i] && week == api.FaceOpen || !stopped[i] && week == api.FaceStops {
			return api.ErrFaceTruth
		}
	}
	return api.OK
}

func checkPlan(t api.FaceTurn, plan []int) api.Errno {
	if !isFrom(len(plan), 1, api.FaceYears) || !areFrom(plan, api.FaceRest, t.Cols-1) {
		return api.ErrFacePlan
	}
	return api.OK
}

func checkRange(n, least, most int) api.Errno {
	if !isFrom(n, least, most) {
		return api.ErrRange
	}
	return api.OK
}

func isFrom(n, least, most int) bool { return n >= least && n <= most }

func areFrom(numbers []int, least, most int) bool {
	for _, n := range numbers {
		if !isFrom(n, least, most) {
			return false
		}
	}
	return true
}
