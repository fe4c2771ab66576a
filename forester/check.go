// Package forester keeps the books of a resin forest and its works, line by line: trees, pots, casks, batches, drums and pay, with all masses and all money accounted for.
package forester

import (
	"pinaster/api"
	"pinaster/rights"
	"pinaster/rosin"
)

// Check checks a setup.
func Check(s api.ForestSetup) api.Errno {
	meets, e := rights.Crosses(s.Rule, s.Rights)
	if e != api.OK || len(meets) > 0 || rosin.Check(s.Grades) != api.OK ||
		!isFrom(s.Day, 0, api.MaxDay) || !isFrom(s.Advance, 0, api.ForestAdvance) {
		return api.ErrForest
	}
	return api.OK
}

// need leaves a line with an error, unless something is so.
func need(is bool, e api.Errno) {
	if !is {
		panic(e)
	}
}

func isFrom(n, least, most int) bool { return n >= least && n <= most }
