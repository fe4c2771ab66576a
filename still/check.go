// Package still runs a still by what its sensors say, of which some may have failed: how hot its charge may be, what the temperature can be, and with which settings it surely stays below the flash, and does not set.
package still

import "pinaster/api"

// Check checks a still.
func Check(s api.Still) api.Errno {
	if !isTable(s.Table) || !isFrom(s.Margin, 0, api.StillTemp) || !isSpan(s.End, 0, api.StillTemp) ||
		!areSteps(s.Steps) || !areSettings(s.Settings) || !areSensors(s) {
		return api.ErrStill
	}
	return api.OK
}

func isTable(points []api.StillPoint) bool {
	if !isFrom(len(points), 2, api.StillPoints) || points[0].Vacuum != 0 || points[len(points)-1].Vacuum != api.StillVacuum {
		return false
	}
	least, most := 0, api.StillTemp
	for _, p := range points {
		if !isFrom(p.Vacuum, least, api.StillVacuum) || !isFrom(p.Flash, 0, most) {
			return false
		}
		least, most = p.Vacuum+1, p.Flash
	}
	return true
}

func areSteps(steps []api.StillStep) bool {
	if !isFrom(len(steps), 1, api.StillSteps) {
		return false
	}
	for _, step := range steps {
		if !isFrom(step.Vacuum, 0, api.StillVacuum) || !isTemp(step.Cold) || !isSpan(step.Loss, 0, api.StillHeat) {
			return false
		}
	}
	return true
}

func areSettings(settings []api.StillSetting) bool {
	if !isFrom(len(settings), 1, api.StillSettings) {
		return false
	}
	for _, setting := range settings {
		if !isSpan(setting.Heat, 0, api.StillHeat) || !isFrom(setting.Yield, 0, api.StillYield) {
			return false
		}
	}
	return true
}

func areSensors(s api.Still) bool {
	return isFrom(s.Sensors, 1, api.StillSensors) && isFrom(s.Failed, 0, (s.Sensors-1)/2) && isFrom(s.Error, 0, api.StillError)
}

func checkStep(s api.Still, step int) api.Errno { return checkIndex(step, len(s.Steps)) }

func checkSetting(s api.Still, setting int) api.Errno { return checkIndex(setting, len(s.Settings)) }

func checkTemp(temp int) api.Errno { return checkIndex(temp, api.StillTemp+1) }

func checkVacuum(vacuum int) api.Errno { return checkIndex(vacuum, api.StillVacuum+1) }

func checkIndex(i, many int) api.Errno {
	if !isFrom(i, 0, many-1) {
		return api.ErrStillStep
	}
	return api.OK
}

func checkSpan(s api.Still, known api.Span) api.Errno {
	if !isSpan(known, 0, api.StillTemp) || known.High-known.Low > 2*s.Error {
		return api.ErrStillSpan
	}
	return api.OK
}

func checkRun(s api.Still, readings [][]int, heat, loss []int) api.Errno {
	many := len(s.Steps)
	if len(readings) != many || len(heat) != many || len(loss) != many {
		return api.ErrStillRead
	}
	return api.OK
}

func isTemp(n int) bool { return isFrom(n, 0, api.StillTemp) }

func isFrom(n, least, most int) bool { return n >= least && n <= most }

func isIn(n int, s api.Span) bool { return isFrom(n, s.Low, s.High) }

func isSpan(s api.Span, least, most int) bool {
	return s.Low >= least && s.High <= most && s.Low <= s.High
}
